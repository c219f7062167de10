"""Promise 2: run."""

import itertools
import unittest

from byterows.rows import run
from checks import DIGITS, EVERY_BYTE, NO_BYTE, ONE_BYTE_ALONE, CallTest, set_of

# Written out by hand, so that they don't lean on the rule under test.
ONE_BYTE_MISSING = {
    0: [254] + [255] * 31,
    1: [253] + [255] * 31,
    7: [127] + [255] * 31,
    8: [255, 254] + [255] * 30,
    15: [255, 127] + [255] * 30,
    20: [255, 255, 239] + [255] * 29,
    65: [255] * 8 + [253] + [255] * 23,
    127: [255] * 15 + [127] + [255] * 16,
    128: [255] * 16 + [254] + [255] * 15,
    248: [255] * 31 + [254],
    254: [255] * 31 + [191],
    255: [255] * 31 + [127],
}


class RunTest(CallTest):
    def test_names(self):
        self.check_names(run, ["some_set", "p"])

    def test_first_middle_and_last_place(self):
        self.check(run, (DIGITS, [97, 48, 57]), [0])
        self.check(run, (DIGITS, [48, 57, 97, 50]), [2])
        self.check(run, (DIGITS, [48, 57, 50, 58]), [3])
        self.check(run, (DIGITS, [47]), [0])

    def test_more_than_once_tells_the_first(self):
        self.check(run, (DIGITS, [48, 97, 57, 98, 99]), [1])
        self.check(run, (DIGITS, [97, 97, 97]), [0])

    def test_all_in_the_set_answers_n(self):
        self.check(run, (DIGITS, [48, 49, 56, 57, 53]), [5])
        self.check(run, (DIGITS, [57]), [1])

    def test_empty_row(self):
        for some_set in (NO_BYTE, EVERY_BYTE, DIGITS, ONE_BYTE_ALONE[0], ONE_BYTE_MISSING[0]):
            self.check(run, (some_set, []), [0])

    def test_set_with_no_byte(self):
        self.check(run, (NO_BYTE, list(range(256))), [0])
        for c in range(256):
            self.check(run, (NO_BYTE, [c, c]), [0])

    def test_set_with_every_byte(self):
        self.check(run, (EVERY_BYTE, list(range(256))), [256])
        for c in range(256):
            self.check(run, (EVERY_BYTE, [c, c]), [2])

    def test_one_byte_missing(self):
        upwards = list(range(256))
        for c, some_set in ONE_BYTE_MISSING.items():
            self.check(run, (some_set, upwards), [c])
            self.check(run, (some_set, upwards[::-1]), [255 - c])
            self.check(run, (some_set, [byte for byte in upwards if byte != c]), [255])

    def test_one_byte_alone(self):
        for c, some_set in ONE_BYTE_ALONE.items():
            self.check(run, (some_set, [c, c, c]), [3])
            for other in range(256):
                if other != c:
                    self.check(run, (some_set, [c, c, other, c]), [2])

    def test_every_byte_alone_and_missing_alone(self):
        for c in range(256):
            self.check(run, (set_of([c]), [c, c, 255 - c]), [2])
            all_others = set_of([byte for byte in range(256) if byte != c])
            self.check(run, (all_others, list(range(256))), [c])

    def test_longest_row(self):
        row = [7] * 4096
        some_set = ONE_BYTE_ALONE[7]
        self.check(run, (NO_BYTE, row), [0])
        self.check(run, (EVERY_BYTE, row), [4096])
        self.check(run, (some_set, row), [4096])
        self.check(run, (some_set, row[:-1] + [8]), [4095])
        self.check(run, (some_set, row[:2000] + [8] + row[:2095]), [2000])

    def test_all_short_rows(self):
        for n in range(5):
            for row in itertools.product((0, 7, 8, 255), repeat=n):
                for members in ((0, 255), (7,), (0, 8, 255), (1, 15, 248)):
                    places = [k for k, byte in enumerate(row) if byte not in members]
                    self.check(run, (set_of(members), list(row)), [min(places, default=n)])

    def test_nothing_is_kept_when_set_or_row_change_between_calls(self):
        some_set = [129] + [0] * 31
        row = [0, 7, 8]
        self.assertEqual(run(some_set, row), [2])
        some_set[0] = 1
        self.assertEqual(run(some_set, row), [1])
        row[1] = 0
        self.assertEqual(run(some_set, row), [2])


if __name__ == "__main__":
    unittest.main()
