"""Calls on rows of bytes: each takes values and gives back one list of whole numbers."""


def find(c, p):
    """Where the first byte c is; how many bytes p has where there is none."""
    for k in range(len(p)):
        if p[k] == c:
            return [k]
    return [len(p)]


def last(c, p):
    """Where the last byte c is, and one more; 0 where there is none."""
    for behind in range(len(p), 0, -1):
        if p[behind - 1] == c:
            return [behind]
    return [0]


def holds(some_set, c):
    """Whether byte c is in the set of 32 bytes."""
    bit = (some_set[c // 8] >> (c % 8)) & 1
    return bit == 1


def in_set(some_set, p):
    """Where the first byte is that is in the set; how many bytes p has where none is."""
    for k in range(len(p)):
        if holds(some_set, p[k]):
            return [k]
    return [len(p)]


def run(some_set, p):
    """Where the first byte is that is not in the set; how many bytes p has where all are."""
    for k in range(len(p)):
        if not holds(some_set, p[k]):
            return [k]
    return [len(p)]


def count(c, p):
    """How many bytes c there are."""
    found = 0
    for byte in p:
        if byte == c:
            found += 1
    return [found]


def text(p):
    """How many bytes there are before the first 0; how many p has where there is no 0."""
    return find(0, p)
