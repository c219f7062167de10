"""Promise 5: compare."""

import itertools
import unittest

from byterows.rows import compare
from checks import CallTest


class CompareTest(CallTest):
    def check_order(self, first, second):
        """The row that is first, as p and then as q."""
        self.check(compare, (second, first), [-1])
        self.check(compare, (first, second), [1])

    def test_names(self):
        self.check_names(compare, ["q", "p"])

    def test_minus_1_where_p_is_first_and_1_where_q_is(self):
        self.check(compare, ([6], [5]), [-1])
        self.check(compare, ([5], [6]), [1])

    def test_the_same_rows(self):
        self.check(compare, ([5, 6, 7], [5, 6, 7]), [0])
        self.check(compare, ([0], [0]), [0])
        self.check(compare, ([255, 128], [255, 128]), [0])
        row = [1, 2, 3]
        self.check(compare, (row, row), [0])

    def test_both_empty(self):
        self.check(compare, ([], []), [0])

    def test_one_empty(self):
        for c in (0, 1, 127, 128, 255):
            self.check_order([], [c])
            self.check_order([], [c, c])

    def test_one_the_beginning_of_the_other(self):
        self.check_order([5, 6], [5, 6, 7])
        self.check_order([5, 6], [5, 6, 0])
        self.check_order([5], [5, 5, 5, 5])
        self.check_order([0], [0, 0])
        self.check_order([255], [255, 255])

    def test_first_difference_at_first_middle_and_last_place(self):
        self.check_order([4, 6, 7], [5, 6, 7])
        self.check_order([5, 6, 7, 8], [5, 6, 8, 8])
        self.check_order([5, 6, 7], [5, 6, 8])

    def test_only_the_first_difference_counts(self):
        self.check_order([4, 9, 9], [5, 0, 0])
        self.check_order([5, 6, 255], [5, 7, 0])

    def test_a_difference_goes_ahead_of_the_length(self):
        self.check_order([4, 9, 9], [5])
        self.check_order([4], [5, 0, 0])
        self.check_order([5, 6, 0, 0], [5, 7])

    def test_bytes_are_unsigned(self):
        for small in (0, 1, 126):
            for great in (127, 128, 255):
                self.check_order([small], [great])
                self.check_order([9, small, great], [9, great, small])
        self.check_order([127], [128])
        self.check_order([127], [255])
        self.check_order([128], [255])

    def test_every_pair_of_bytes(self):
        for one, other in itertools.combinations(range(256), 2):
            self.assertEqual(compare([other], [one]), [-1])
            self.assertEqual(compare([one], [other]), [1])

    def test_longest_rows(self):
        row = [7] * 4096
        self.check(compare, (row, list(row)), [0])
        self.check_order(row[:-1], row)
        self.check_order([], row)
        self.check_order(row[:-1] + [6], row)
        self.check_order(row, row[:-1] + [255])
        self.check_order([6] + row[1:], row)
        self.check_order(row[:2000] + [0] + row[:2095], row)

    def test_all_short_rows(self):
        rows = [list(row) for n in range(4) for row in itertools.product((0, 128, 255), repeat=n)]
        for q, p in itertools.product(rows, repeat=2):
            self.check(compare, (q, p), [(bytes(p) > bytes(q)) - (bytes(p) < bytes(q))])

    def test_nothing_is_kept_when_the_rows_change_between_calls(self):
        q = [1, 2]
        p = [1, 3]
        self.assertEqual(compare(q, p), [1])
        p[1] = 2
        self.assertEqual(compare(q, p), [0])
        q[0] = 2
        self.assertEqual(compare(q, p), [-1])


if __name__ == "__main__":
    unittest.main()
