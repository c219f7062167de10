"""Calls on rows of bytes: each takes values and gives back one list of whole numbers."""

# The two numbers of the sum (CRC-32C): what it begins and ends with, and its polynomial, bits reflected.
ALL_ONES = 0xFFFFFFFF
POLYNOMIAL = 0x82F63B78

# Reflected, the highest bit stands for x to the 0, so this is the 1 of the polynomials.
ONE = 0x80000000


def find(c, p):
    """Where the first byte c is; how many bytes p has where there is none."""
    for k in range(len(p)):
        if p[k] == c:
            return [k]
    return [len(p)]


def last(c, p):
    """Where the last byte c is, and one more; 0 where there is none."""
    for behind in range(len(p), 0, -1):
        if p[behind - 1] == c:
            return [behind]
    return [0]


def holds(some_set, c):
    """Whether byte c is in the set of 32 bytes."""
    bit = (some_set[c // 8] >> (c % 8)) & 1
    return bit == 1


def in_set(some_set, p):
    """Where the first byte is that is in the set; how many bytes p has where none is."""
    for k in range(len(p)):
        if holds(some_set, p[k]):
            return [k]
    return [len(p)]


def run(some_set, p):
    """Where the first byte is that is not in the set; how many bytes p has where all are."""
    for k in range(len(p)):
        if not holds(some_set, p[k]):
            return [k]
    return [len(p)]


def count(c, p):
    """How many bytes c there are."""
    found = 0
    for byte in p:
        if byte == c:
            found += 1
    return [found]


def text(p):
    """How many bytes there are before the first 0; how many p has where there is no 0."""
    return find(0, p)


def place(q, p):
    """The first place where q's bytes stand among p's; how many bytes p has where they do not."""
    for k in range(len(p) - len(q) + 1):
        if p[k:k + len(q)] == q:
            return [k]
    return [len(p)]


def compare(q, p):
    """-1 where p is first, 1 where q is, 0 where they are the same."""
    for k in range(min(len(q), len(p))):
        if p[k] < q[k]:
            return [-1]
        if q[k] < p[k]:
            return [1]
    if len(p) < len(q):
        return [-1]
    if len(q) < len(p):
        return [1]
    return [0]


def shifted(state):
    """The sum's 32 bits one step on; as a polynomial, times x."""
    shifted_out = state & 1
    state = state >> 1
    if shifted_out == 1:
        state = state ^ POLYNOMIAL
    return state


def gone_on(state, byte):
    """The sum's 32 bits, not turned, when one more byte has gone in."""
    state = state ^ byte
    for step in range(8):
        state = shifted(state)
    return state


def sum_of(before, p):
    """The sum of a row whose sum before p's bytes was before."""
    # All bits are turned at the end of every sum, so turning them back is where before left off.
    state = before ^ ALL_ONES
    for byte in p:
        state = gone_on(state, byte)
    return [state ^ ALL_ONES]


def times(a, b):
    """The product of two polynomials, bits reflected: the rest that the sum's own polynomial leaves of it."""
    product = 0
    for k in range(31, -1, -1):
        bit = (a >> k) & 1
        if bit == 1:
            product = product ^ b
        b = shifted(b)
    return product


def zeros_factor(n):
    """What going on by n bytes 0 multiplies the sum's 32 bits by."""
    # n may be far too many to go on by one after the other, so the factor is squared along the bits of n.
    factor = ONE
    square = gone_on(ONE, 0)
    while n > 0:
        if n % 2 == 1:
            factor = times(factor, square)
        square = times(square, square)
        n = n // 2
    return factor


def join(a, b, n):
    """The sum of two rows together: a the first one's sum, b the second one's, n how many bytes the second has."""
    return [times(a, zeros_factor(n)) ^ b]


def turn(width, p):
    """0, then p's bytes, each group of width the other way round; -1 where that can't be done."""
    if width not in (2, 4, 8) or len(p) % width != 0:
        return [-1]
    answer = [0]
    for start in range(0, len(p), width):
        for k in range(start + width - 1, start - 1, -1):
            answer.append(p[k])
    return answer


def four_bytes(number):
    """A number of 32 bits as four bytes, the highest first."""
    return [number >> 24, (number >> 16) & 255, (number >> 8) & 255, number & 255]


def frame(cap, p):
    """How many bytes p's frame has, then these; 0 alone where they are more than cap."""
    size = len(p) + 8
    if size > cap:
        return [0]
    summed = four_bytes(len(p)) + p
    return [size] + summed + four_bytes(sum_of(0, summed)[0])


def number_at(p, k):
    """The number that the four bytes of p from k on tell, the highest first."""
    return (p[k] << 24) | (p[k + 1] << 16) | (p[k + 2] << 8) | p[k + 3]


def states_along(state, p):
    """The sum's 32 bits ahead of p's first byte and behind each of its bytes."""
    states = [state]
    for byte in p:
        state = gone_on(state, byte)
        states.append(state)
    return states


def next_frame(p):
    """The first place where a whole frame stands, then how many bytes its row has; p's own length, then 0, if none."""
    # Summing anew at each place could go through p thousands of times. As in join, the sum behind a part is the sum
    # ahead of it times the part's factor, combined with the part's own: so that is told by the other two.
    sums = [state ^ ALL_ONES for state in states_along(ALL_ONES, p)]
    factors = states_along(ONE, [0] * len(p))
    for k in range(len(p) - 7):
        length = number_at(p, k)
        behind = k + 4 + length
        if behind + 4 <= len(p):
            own = sums[behind] ^ times(sums[k], factors[4 + length])
            if own == number_at(p, behind):
                return [k, length]
    return [len(p), 0]
