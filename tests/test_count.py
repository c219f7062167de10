"""Promise 1: count."""

import itertools
import unittest

from byterows.rows import count
from checks import CallTest


class CountTest(CallTest):
    def test_names(self):
        self.check_names(count, ["c", "p"])

    def test_none_one_several_and_all(self):
        self.check(count, (9, [5, 6, 7, 8]), [0])
        self.check(count, (9, [8]), [0])
        self.check(count, (5, [5, 6, 7, 8]), [1])
        self.check(count, (7, [5, 6, 7, 8]), [1])
        self.check(count, (8, [5, 6, 7, 8]), [1])
        self.check(count, (6, [6, 5, 6, 6, 7, 6]), [4])
        self.check(count, (6, [5, 6, 6, 5]), [2])
        self.check(count, (6, [6, 6, 6]), [3])
        self.check(count, (6, [6]), [1])

    def test_empty_row(self):
        for c in (0, 1, 255):
            self.check(count, (c, []), [0])

    def test_lowest_and_highest_byte(self):
        self.check(count, (0, [0, 255, 1, 0, 0]), [3])
        self.check(count, (255, [255, 254, 127, 255, 0]), [2])
        self.check(count, (0, [255, 1, 128]), [0])
        self.check(count, (255, [0, 1, 254]), [0])

    def test_every_byte(self):
        row = list(range(256)) + list(range(100, 200))
        for c in range(256):
            self.check(count, (c, row), [2 if 100 <= c < 200 else 1])

    def test_longest_row(self):
        row = [0] * 4096
        self.check(count, (0, row), [4096])
        self.check(count, (1, row), [0])
        self.check(count, (1, row[:-1] + [1]), [1])
        self.check(count, (0, row[:-1] + [1]), [4095])
        self.check(count, (255, [0, 255] * 2048), [2048])

    def test_all_short_rows(self):
        for n in range(6):
            for row in itertools.product((0, 1, 255), repeat=n):
                for c in (0, 1, 255):
                    self.check(count, (c, list(row)), [len([byte for byte in row if byte == c])])

    def test_nothing_is_kept_when_the_row_changes_between_calls(self):
        row = [1, 2, 2]
        self.assertEqual(count(2, row), [2])
        row[1] = 1
        self.assertEqual(count(2, row), [1])
        self.assertEqual(count(1, row), [2])


if __name__ == "__main__":
    unittest.main()
