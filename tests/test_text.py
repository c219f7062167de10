"""Promise 3: text."""

import itertools
import unittest

from byterows.rows import text
from checks import CallTest


class TextTest(CallTest):
    def test_names(self):
        self.check_names(text, ["p"])

    def test_first_middle_and_last_place(self):
        self.check(text, ([0, 5, 6],), [0])
        self.check(text, ([5, 6, 0, 7],), [2])
        self.check(text, ([5, 6, 7, 0],), [3])
        self.check(text, ([0],), [0])

    def test_further_zeros_behind_the_first(self):
        self.check(text, ([0, 5, 0, 0],), [0])
        self.check(text, ([5, 0, 6, 0, 0, 7],), [1])
        self.check(text, ([5, 6, 0, 0],), [2])
        self.check(text, ([0, 0, 0],), [0])

    def test_no_0_answers_n(self):
        self.check(text, ([5, 6, 7, 8],), [4])
        self.check(text, ([1],), [1])
        self.check(text, ([255, 128, 127, 48],), [4])

    def test_empty_row(self):
        self.check(text, ([],), [0])

    def test_no_other_byte_ends_the_text(self):
        for c in range(1, 256):
            self.check(text, ([c, c, 0, c],), [2])
            self.check(text, ([c, c],), [2])

    def test_longest_row(self):
        row = [255] * 4096
        self.check(text, (row,), [4096])
        self.check(text, ([0] * 4096,), [0])
        self.check(text, (row[:-1] + [0],), [4095])
        self.check(text, (row[:2000] + [0] + row[:2095],), [2000])

    def test_all_short_rows(self):
        for n in range(7):
            for row in itertools.product((0, 1, 255), repeat=n):
                before = list(itertools.takewhile(lambda byte: byte != 0, row))
                self.check(text, (list(row),), [len(before)])

    def test_nothing_is_kept_when_the_row_changes_between_calls(self):
        row = [1, 0, 3]
        self.assertEqual(text(row), [1])
        row[1] = 2
        self.assertEqual(text(row), [3])
        row[0] = 0
        self.assertEqual(text(row), [0])


if __name__ == "__main__":
    unittest.main()
