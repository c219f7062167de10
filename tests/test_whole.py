"""The whole program: no call changes what it is handed, prints, or keeps what a later call answers otherwise by."""

import copy
import itertools
import unittest

from byterows import rows
from checks import DIGITS, NINE, UPWARDS, CallTest, framed

LONGEST = UPWARDS * 16
FRAMED = framed([1, 2, 3])

# Each call at least twice, with other answers; the answers are written out.
CALLS = (
    (rows.find, (53, NINE), [4]),
    (rows.find, (255, LONGEST), [255]),
    (rows.last, (53, NINE), [5]),
    (rows.last, (0, LONGEST), [3841]),
    (rows.in_set, (DIGITS, [97, 98, 55]), [2]),
    (rows.in_set, (DIGITS, LONGEST), [48]),
    (rows.run, (DIGITS, NINE), [9]),
    (rows.run, (DIGITS, [55, 97]), [1]),
    (rows.count, (53, NINE), [1]),
    (rows.count, (7, LONGEST), [16]),
    (rows.text, (NINE,), [9]),
    (rows.text, (LONGEST,), [0]),
    (rows.place, ([54, 55], NINE), [5]),
    (rows.place, (UPWARDS[1:] + [0], LONGEST), [1]),
    (rows.compare, (NINE, NINE), [0]),
    (rows.compare, (NINE, LONGEST), [-1]),
    (rows.sum_of, (0, NINE), [0xE3069283]),
    (rows.sum_of, (0xE3069283, []), [0xE3069283]),
    (rows.join, (0x80000000, 0, 4), [0x82F63B78]),
    (rows.join, (0x80000000, 0, 2**64 - 1), [0x00000080]),
    (rows.turn, (2, [1, 2, 3, 4]), [0, 2, 1, 4, 3]),
    (rows.turn, (4, [1, 2, 3, 4]), [0, 4, 3, 2, 1]),
    (rows.turn, (8, [1, 2, 3, 4]), [-1]),
    (rows.frame, (8, []), [8, 0, 0, 0, 0, 0x48, 0x67, 0x4B, 0xC7]),
    (rows.frame, (11, [1, 2, 3]), [11] + FRAMED),
    (rows.frame, (10, [1, 2, 3]), [0]),
    (rows.next_frame, ([9] + FRAMED,), [1, 3]),
    (rows.next_frame, (LONGEST,), [4096, 0]),
)


def kept():
    """What the module holds beside its functions, as it is now."""
    values = {name: value for name, value in vars(rows).items() if not name.startswith("__")}
    return {name: copy.deepcopy(value) for name, value in values.items() if not callable(value)}


class WholeTest(CallTest):
    def test_all_thirteen_are_here(self):
        self.assertEqual(len({call for call, arguments, expected in CALLS}), 13)

    def test_each_call_by_itself(self):
        for call, arguments, expected in CALLS:
            with self.subTest(call=call.__name__):
                self.check(call, arguments, expected)

    def test_each_call_after_each_other(self):
        for before, after in itertools.permutations(CALLS, 2):
            self.answer_of(before[0], before[1])
            with self.subTest(before=before[0].__name__, after=after[0].__name__):
                self.assertEqual(self.answer_of(after[0], after[1]), after[2])

    def test_the_module_and_its_functions_hold_nothing_new(self):
        before = kept()
        for call, arguments, expected in CALLS:
            self.answer_of(call, arguments)
            self.assertEqual(kept(), before)
            self.assertEqual(vars(call), {})

    def test_one_row_for_all_calls(self):
        # The row is handed to every call and stays as it is, so each answers as if it came first.
        row = [0, 0, 0, 0, 0x48, 0x67, 0x4B, 0xC7]
        fresh = tuple(row)
        for again in range(2):
            for call, arguments, expected in (
                    (rows.find, (0x67, row), [5]), (rows.last, (0, row), [4]), (rows.in_set, (DIGITS, row), [8]),
                    (rows.run, (DIGITS, row), [0]), (rows.count, (0, row), [4]), (rows.text, (row,), [0]),
                    (rows.place, (row, row), [0]), (rows.compare, (row, row), [0]),
                    (rows.turn, (8, row), [0, 0xC7, 0x4B, 0x67, 0x48, 0, 0, 0, 0]),
                    (rows.frame, (16, row), [16] + framed(row)), (rows.next_frame, (row,), [0, 0]),
                    (rows.sum_of, (0, row[:4]), [0x48674BC7]), (rows.join, (0, 0x48674BC7, 4), [0x48674BC7])):
                self.check(call, arguments, expected)
                self.assertEqual(tuple(row), fresh)


if __name__ == "__main__":
    unittest.main()
