"""Promise 2: in, here called in_set."""

import itertools
import unittest

from byterows.rows import in_set
from checks import DIGITS, EVERY_BYTE, NO_BYTE, ONE_BYTE_ALONE, CallTest, set_of


class InSetTest(CallTest):
    def test_names(self):
        self.check_names(in_set, ["some_set", "p"])

    def test_first_middle_and_last_place(self):
        self.check(in_set, (DIGITS, [48, 97, 98]), [0])
        self.check(in_set, (DIGITS, [97, 98, 57, 99]), [2])
        self.check(in_set, (DIGITS, [97, 47, 58, 53]), [3])
        self.check(in_set, (DIGITS, [55]), [0])

    def test_more_than_once_tells_the_first(self):
        self.check(in_set, (DIGITS, [97, 57, 48, 98, 57]), [1])
        self.check(in_set, (DIGITS, [49, 49, 49]), [0])

    def test_none_answers_n(self):
        self.check(in_set, (DIGITS, [47, 58, 97, 0, 255]), [5])
        self.check(in_set, (DIGITS, [47]), [1])

    def test_empty_row(self):
        for some_set in (NO_BYTE, EVERY_BYTE, ONE_BYTE_ALONE[0]):
            self.check(in_set, (some_set, []), [0])

    def test_set_with_no_byte(self):
        self.check(in_set, (NO_BYTE, list(range(256))), [256])
        self.check(in_set, (NO_BYTE, [0]), [1])
        self.check(in_set, (NO_BYTE, [255]), [1])

    def test_set_with_every_byte(self):
        for c in range(256):
            self.check(in_set, (EVERY_BYTE, [c, c]), [0])

    def test_one_byte_alone(self):
        upwards = list(range(256))
        for c, some_set in ONE_BYTE_ALONE.items():
            self.check(in_set, (some_set, upwards), [c])
            self.check(in_set, (some_set, upwards[::-1]), [255 - c])
            self.check(in_set, (some_set, [byte for byte in upwards if byte != c]), [255])

    def test_every_byte_alone_and_missing_alone(self):
        for c in range(256):
            self.check(in_set, (set_of([c]), list(range(256))), [c])
            all_others = set_of([byte for byte in range(256) if byte != c])
            self.check(in_set, (all_others, [c, c, 255 - c]), [2])

    def test_longest_row(self):
        row = [7] * 4096
        some_set = ONE_BYTE_ALONE[8]
        self.check(in_set, (EVERY_BYTE, row), [0])
        self.check(in_set, (NO_BYTE, row), [4096])
        self.check(in_set, (some_set, row), [4096])
        self.check(in_set, (some_set, row[:-1] + [8]), [4095])
        self.check(in_set, (some_set, row[:2000] + [8] + row[:2095]), [2000])

    def test_all_short_rows(self):
        alphabet = (0, 7, 8, 255)
        for n in range(5):
            for row in itertools.product(alphabet, repeat=n):
                for members in ((0, 255), (7,), (8, 255), (1, 15, 248)):
                    places = [k for k, byte in enumerate(row) if byte in members]
                    self.check(in_set, (set_of(members), list(row)), [min(places, default=n)])

    def test_nothing_is_kept_when_set_or_row_change_between_calls(self):
        some_set = list(ONE_BYTE_ALONE[7])
        row = [0, 7, 8]
        self.assertEqual(in_set(some_set, row), [1])
        some_set[0] = 1
        self.assertEqual(in_set(some_set, row), [0])
        row[0] = 9
        self.assertEqual(in_set(some_set, row), [3])


if __name__ == "__main__":
    unittest.main()
