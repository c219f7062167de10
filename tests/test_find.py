"""Promise 1: find."""

import itertools
import unittest

from byterows.rows import find
from checks import CallTest


class FindTest(CallTest):
    def test_names(self):
        self.check_names(find, ["c", "p"])

    def test_first_middle_and_last_place(self):
        self.check(find, (5, [5, 6, 7, 8]), [0])
        self.check(find, (7, [5, 6, 7, 8]), [2])
        self.check(find, (8, [5, 6, 7, 8]), [3])
        self.check(find, (9, [9]), [0])

    def test_more_than_once_tells_the_first(self):
        self.check(find, (6, [5, 6, 7, 6, 6]), [1])
        self.check(find, (6, [6, 6, 6]), [0])

    def test_none_answers_n(self):
        self.check(find, (9, [5, 6, 7, 8]), [4])
        self.check(find, (9, [8]), [1])

    def test_empty_row(self):
        for c in (0, 1, 255):
            self.check(find, (c, []), [0])

    def test_lowest_and_highest_byte(self):
        self.check(find, (0, [255, 1, 0, 0]), [2])
        self.check(find, (255, [0, 254, 127, 255]), [3])
        self.check(find, (0, [255, 1, 128]), [3])
        self.check(find, (255, [0, 1, 254]), [3])

    def test_every_byte(self):
        row = list(range(256))
        for c in row:
            self.check(find, (c, row), [c])

    def test_longest_row(self):
        row = [0] * 4096
        self.check(find, (0, row), [0])
        self.check(find, (1, row), [4096])
        self.check(find, (1, row[:-1] + [1]), [4095])
        self.check(find, (1, row[:2000] + [1] + row[:2095]), [2000])

    def test_all_short_rows(self):
        for n in range(6):
            for row in itertools.product((0, 1, 255), repeat=n):
                for c in (0, 1, 255):
                    places = [k for k, byte in enumerate(row) if byte == c]
                    self.check(find, (c, list(row)), [min(places, default=n)])

    def test_nothing_is_kept_when_the_row_changes_between_calls(self):
        row = [1, 2, 3]
        self.assertEqual(find(2, row), [1])
        row[1] = 3
        self.assertEqual(find(2, row), [3])
        self.assertEqual(find(3, row), [1])


if __name__ == "__main__":
    unittest.main()
