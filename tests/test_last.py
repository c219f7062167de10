"""Promise 1: last."""

import itertools
import unittest

from byterows.rows import last
from checks import CallTest


class LastTest(CallTest):
    def test_names(self):
        self.check_names(last, ["c", "p"])

    def test_first_middle_and_last_place(self):
        self.check(last, (5, [5, 6, 7, 8]), [1])
        self.check(last, (7, [5, 6, 7, 8]), [3])
        self.check(last, (8, [5, 6, 7, 8]), [4])
        self.check(last, (9, [9]), [1])

    def test_more_than_once_tells_the_last_and_one_more(self):
        self.check(last, (6, [6, 5, 6, 7, 6, 8]), [5])
        self.check(last, (6, [6, 6, 6]), [3])

    def test_none_answers_0(self):
        self.check(last, (9, [5, 6, 7, 8]), [0])
        self.check(last, (9, [8]), [0])

    def test_empty_row(self):
        for c in (0, 1, 255):
            self.check(last, (c, []), [0])

    def test_lowest_and_highest_byte(self):
        self.check(last, (0, [0, 0, 1, 255]), [2])
        self.check(last, (255, [255, 254, 127, 0]), [1])
        self.check(last, (0, [255, 1, 128]), [0])
        self.check(last, (255, [0, 1, 254]), [0])

    def test_every_byte(self):
        row = list(range(256))
        for c in row:
            self.check(last, (c, row), [c + 1])

    def test_longest_row(self):
        row = [0] * 4096
        self.check(last, (0, row), [4096])
        self.check(last, (1, row), [0])
        self.check(last, (1, [1] + row[1:]), [1])
        self.check(last, (1, row[:2000] + [1] + row[:2095]), [2001])

    def test_all_short_rows(self):
        for n in range(6):
            for row in itertools.product((0, 1, 255), repeat=n):
                for c in (0, 1, 255):
                    places = [k + 1 for k, byte in enumerate(row) if byte == c]
                    self.check(last, (c, list(row)), [max(places, default=0)])

    def test_nothing_is_kept_when_the_row_changes_between_calls(self):
        row = [1, 2, 3]
        self.assertEqual(last(2, row), [2])
        row[1] = 3
        self.assertEqual(last(2, row), [0])
        self.assertEqual(last(3, row), [3])


if __name__ == "__main__":
    unittest.main()
