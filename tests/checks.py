"""What the tests of every call share."""

import contextlib
import copy
import inspect
import io
import signal
import unittest

NO_BYTE = [0] * 32
EVERY_BYTE = [255] * 32

# Written out by hand, so that they don't lean on the rule under test.
DIGITS = [0] * 6 + [255, 3] + [0] * 24
ONE_BYTE_ALONE = {
    0: [1] + [0] * 31,
    1: [2] + [0] * 31,
    7: [128] + [0] * 31,
    8: [0, 1] + [0] * 30,
    15: [0, 128] + [0] * 30,
    20: [0, 0, 16] + [0] * 29,
    65: [0] * 8 + [2] + [0] * 23,
    127: [0] * 15 + [128] + [0] * 16,
    128: [0] * 16 + [1] + [0] * 15,
    248: [0] * 31 + [1],
    254: [0] * 31 + [64],
    255: [0] * 31 + [128],
}

NINE = [49, 50, 51, 52, 53, 54, 55, 56, 57]
UPWARDS = list(range(256))
HIGHEST = 4294967295


def set_of(members):
    bits = "".join("1" if c in members else "0" for c in range(256))
    return [int(bits[start:start + 8][::-1], 2) for start in range(0, 256, 8)]


def reflected(number, width):
    return int(format(number, "b").zfill(width)[::-1], 2)


def divided(before, row):
    """The sum the other way: highest bit first, one long division of the whole row by 1EDC6F41, bits turned round."""
    bits = "".join(format(byte, "08b")[::-1] for byte in row) + "0" * 32
    width = len(bits)
    rest = int(bits, 2) ^ reflected(before ^ HIGHEST, 32) << (width - 32)
    for place in range(width - 1, 31, -1):
        if rest >> place & 1:
            rest ^= 0x11EDC6F41 << (place - 32)
    return reflected(rest, 32) ^ HIGHEST


def framed(row):
    """The frame's bytes the other way: Python's own bytes, and the sum by long division."""
    summed = len(row).to_bytes(4, "big") + bytes(row)
    return list(summed + divided(0, summed).to_bytes(4, "big"))


def refuse_change(self, *arguments, **keywords):
    raise AssertionError("what was handed in is changed")


class FixedList(list):
    """A list that can't be changed, so that a change that is undone later is seen too."""

    __setitem__ = __delitem__ = __iadd__ = __imul__ = refuse_change
    append = extend = insert = pop = remove = clear = reverse = sort = refuse_change


def fixed(value):
    return FixedList(value) if isinstance(value, list) else value


def too_slow(number, stack):
    raise AssertionError("not in good time")


@contextlib.contextmanager
def good_time():
    """Ten seconds are many times what the slowest call needs; a call that would not end fails instead of hanging."""
    before = signal.signal(signal.SIGALRM, too_slow)
    signal.alarm(10)
    try:
        yield
    finally:
        signal.alarm(0)
        signal.signal(signal.SIGALRM, before)


class CallTest(unittest.TestCase):
    def answer_of(self, call, arguments):
        """Calls once; the answer must be a plain list of plain whole numbers, and nothing may be printed."""
        printed = io.StringIO()
        with contextlib.redirect_stdout(printed), contextlib.redirect_stderr(printed):
            answer = call(*arguments)
        self.assertEqual(printed.getvalue(), "")
        self.assertIs(type(answer), list)
        for number in answer:
            self.assertIs(type(number), int)
        return answer

    def check(self, call, arguments, expected):
        """The answer is as expected, also when asked again, and the arguments stay as they were."""
        before = copy.deepcopy(arguments)
        first = self.answer_of(call, arguments)
        self.assertEqual(first, expected)
        self.assertEqual(arguments, before)
        for value in arguments:
            self.assertIsNot(first, value)
        # An answer that the call kept for itself would now come back spoilt.
        first.append(-7)
        self.assertEqual(self.answer_of(call, arguments), expected)
        self.assertEqual(arguments, before)
        self.assertEqual(self.answer_of(call, tuple(fixed(value) for value in arguments)), expected)

    def check_names(self, call, names):
        parameters = inspect.signature(call).parameters
        self.assertEqual(list(parameters), names)
        for parameter in parameters.values():
            self.assertIs(parameter.default, inspect.Parameter.empty)
