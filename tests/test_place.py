"""Promise 4: place."""

import itertools
import unittest

from byterows.rows import place
from checks import CallTest


class PlaceTest(CallTest):
    def test_names(self):
        self.check_names(place, ["q", "p"])

    def test_first_place_middle_and_very_end(self):
        self.check(place, ([5, 6], [5, 6, 7, 8, 9]), [0])
        self.check(place, ([7, 8], [5, 6, 7, 8, 9]), [2])
        self.check(place, ([8, 9], [5, 6, 7, 8, 9]), [3])
        self.check(place, ([9], [5, 6, 7, 8, 9]), [4])

    def test_more_than_once_tells_the_first(self):
        self.check(place, ([6, 7], [5, 6, 7, 6, 7, 6, 7]), [1])
        self.check(place, ([6, 6], [5, 6, 6, 6]), [1])
        self.check(place, ([6], [6, 6, 6]), [0])

    def test_not_there_answers_n(self):
        self.check(place, ([6, 5], [5, 6, 7, 8]), [4])
        self.check(place, ([5, 7], [5, 6, 7, 8]), [4])
        self.check(place, ([9], [8]), [1])

    def test_begins_among_the_last_bytes_but_does_not_fit(self):
        self.check(place, ([8, 9], [5, 6, 7, 8]), [4])
        self.check(place, ([7, 8, 9], [5, 6, 7, 8]), [4])
        self.check(place, ([8, 5], [5, 6, 7, 8]), [4])
        self.check(place, ([0, 0, 0], [1, 0, 0]), [3])

    def test_partial_match_overlaps_the_true_place(self):
        self.check(place, ([1, 1, 2], [1, 1, 1, 2]), [1])
        self.check(place, ([1, 2, 1, 3], [1, 2, 1, 2, 1, 3]), [2])
        self.check(place, ([1, 1, 1, 2], [1, 1, 2, 1, 1, 1, 1, 2, 1]), [4])
        self.check(place, ([1, 2, 1, 2, 3], [1, 2, 1, 2, 1, 2, 3, 9]), [2])

    def test_longer_than_p(self):
        self.check(place, ([5, 6, 7], [5, 6]), [2])
        self.check(place, ([5, 6, 7, 8, 9], [5, 6]), [2])
        self.check(place, ([5, 5], [5]), [1])

    def test_the_same_as_p(self):
        self.check(place, ([5, 6, 7], [5, 6, 7]), [0])
        self.check(place, ([255], [255]), [0])
        row = [1, 2, 3]
        self.check(place, (row, row), [0])

    def test_same_length_but_another(self):
        self.check(place, ([5, 6, 8], [5, 6, 7]), [3])
        self.check(place, ([4, 6, 7], [5, 6, 7]), [3])

    def test_empty_q(self):
        self.check(place, ([], []), [0])
        self.check(place, ([], [5]), [0])
        self.check(place, ([], [5, 6, 7]), [0])
        self.check(place, ([], [5] * 4096), [0])

    def test_empty_p(self):
        self.check(place, ([0], []), [0])
        self.check(place, ([5, 6], []), [0])
        self.check(place, ([5] * 4096, []), [0])

    def test_lowest_and_highest_byte(self):
        self.check(place, ([0, 255], [255, 0, 0, 255]), [2])
        self.check(place, ([255, 0], [0, 255, 255, 0]), [2])

    def test_longest_rows(self):
        row = [1] * 4096
        self.check(place, (row, row), [0])
        self.check(place, ([1], row), [0])
        self.check(place, ([2], row), [4096])
        self.check(place, ([1, 2], row), [4096])
        self.check(place, ([1, 2], row[:-1] + [2]), [4094])
        self.check(place, ([2], row[:-1] + [2]), [4095])
        self.check(place, ([2, 1, 1], row[:2000] + [2] + row[:2095]), [2000])
        self.check(place, ([1] * 2047 + [2], row), [4096])
        self.check(place, ([1] * 2047 + [2], row[:-1] + [2]), [2048])
        self.check(place, (row[:-1] + [2], row), [4096])
        self.check(place, (row, row[:-1]), [4095])

    def test_all_short_rows(self):
        for n, m in itertools.product(range(7), range(5)):
            for row in itertools.product((0, 255), repeat=n):
                for sought in itertools.product((0, 255), repeat=m):
                    found = bytes(row).find(bytes(sought))
                    self.check(place, (list(sought), list(row)), [n if found < 0 else found])

    def test_nothing_is_kept_when_the_rows_change_between_calls(self):
        sought = [2, 3]
        row = [1, 2, 3]
        self.assertEqual(place(sought, row), [1])
        row[1] = 3
        self.assertEqual(place(sought, row), [3])
        sought[0] = 3
        self.assertEqual(place(sought, row), [1])


if __name__ == "__main__":
    unittest.main()
