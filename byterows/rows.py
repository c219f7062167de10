"""Calls on rows of bytes: each takes values and gives back one list of whole numbers."""

# The two numbers of the sum (CRC-32C): what it begins and ends with, and its polynomial, bits reflected.
ALL_ONES = 0xFFFFFFFF
POLYNOMIAL = 0x82F63B78


def find(c, p):
    """Where the first byte c is; how many bytes p has where there is none."""
    for k in range(len(p)):
        if p[k] == c:
            return [k]
    return [len(p)]


def last(c, p):
    """Where the last byte c is, and one more; 0 where there is none."""
    for behind in range(len(p), 0, -1):
        if p[behind - 1] == c:
            return [behind]
    return [0]


def holds(some_set, c):
    """Whether byte c is in the set of 32 bytes."""
    bit = (some_set[c // 8] >> (c % 8)) & 1
    return bit == 1


def in_set(some_set, p):
    """Where the first byte is that is in the set; how many bytes p has where none is."""
    for k in range(len(p)):
        if holds(some_set, p[k]):
            return [k]
    return [len(p)]


def run(some_set, p):
    """Where the first byte is that is not in the set; how many bytes p has where all are."""
    for k in range(len(p)):
        if not holds(some_set, p[k]):
            return [k]
    return [len(p)]


def count(c, p):
    """How many bytes c there are."""
    found = 0
    for byte in p:
        if byte == c:
            found += 1
    return [found]


def text(p):
    """How many bytes there are before the first 0; how many p has where there is no 0."""
    return find(0, p)


def place(q, p):
    """The first place where q's bytes stand among p's; how many bytes p has where they do not."""
    for k in range(len(p) - len(q) + 1):
        if p[k:k + len(q)] == q:
            return [k]
    return [len(p)]


def compare(q, p):
    """-1 where p is first, 1 where q is, 0 where they are the same."""
    for k in range(min(len(q), len(p))):
        if p[k] < q[k]:
            return [-1]
        if q[k] < p[k]:
            return [1]
    if len(p) < len(q):
        return [-1]
    if len(q) < len(p):
        return [1]
    return [0]


def gone_on(state, byte):
    """The sum's 32 bits, not turned, when one more byte has gone in."""
    state = state ^ byte
    for step in range(8):
        shifted_out = state & 1
        state = state >> 1
        if shifted_out == 1:
            state = state ^ POLYNOMIAL
    return state


def sum_of(before, p):
    """The sum of a row whose sum before p's bytes was before."""
    # All bits are turned at the end of every sum, so turning them back is where before left off.
    state = before ^ ALL_ONES
    for byte in p:
        state = gone_on(state, byte)
    return [state ^ ALL_ONES]
