"""Promise 8: turn."""

import unittest

from byterows.rows import turn
from checks import UPWARDS, CallTest

OTHER_WIDTHS = (0, 1, 3, 5, 6, 7, 9, 10, 12, 16, 32, 4096, -1, -2, -4, -8, -16, -2147483648, 2147483647)


class TurnTest(CallTest):
    def test_names(self):
        self.check_names(turn, ["width", "p"])

    def test_empty_row(self):
        for width in (2, 4, 8):
            self.check(turn, (width, []), [0])

    def test_one_group(self):
        self.check(turn, (2, [5, 6]), [0, 6, 5])
        self.check(turn, (4, [5, 6, 7, 8]), [0, 8, 7, 6, 5])
        self.check(turn, (8, [1, 2, 3, 4, 5, 6, 7, 8]), [0, 8, 7, 6, 5, 4, 3, 2, 1])

    def test_several_groups(self):
        self.check(turn, (2, [1, 2, 3, 4, 5, 6]), [0, 2, 1, 4, 3, 6, 5])
        self.check(turn, (4, [1, 2, 3, 4, 5, 6, 7, 8]), [0, 4, 3, 2, 1, 8, 7, 6, 5])
        self.check(turn, (4, UPWARDS[:12]), [0, 3, 2, 1, 0, 7, 6, 5, 4, 11, 10, 9, 8])
        self.check(turn, (8, UPWARDS[:16]), [0, 7, 6, 5, 4, 3, 2, 1, 0, 15, 14, 13, 12, 11, 10, 9, 8])

    def test_lowest_and_highest_byte(self):
        self.check(turn, (2, [0, 255]), [0, 255, 0])
        self.check(turn, (2, [255, 0, 0, 0]), [0, 0, 255, 0, 0])
        self.check(turn, (4, [255, 255, 0, 0]), [0, 0, 0, 255, 255])

    def test_n_no_multiple_of_width(self):
        for width in (2, 4, 8):
            for n in range(1, 34):
                if n % width != 0:
                    self.check(turn, (width, UPWARDS[:n]), [-1])

    def test_single_byte_and_half_groups(self):
        for width in (2, 4, 8):
            self.check(turn, (width, [5]), [-1])
        self.check(turn, (4, [5, 6]), [-1])
        self.check(turn, (8, [5, 6]), [-1])
        self.check(turn, (8, [5, 6, 7, 8]), [-1])
        self.check(turn, (8, UPWARDS[:12]), [-1])

    def test_other_widths(self):
        for width in OTHER_WIDTHS:
            for n in (0, 1, 2, 3, 4, 8, 16):
                self.check(turn, (width, UPWARDS[:n]), [-1])

    def test_width_as_long_as_the_row(self):
        for width in (1, 3, 5, 6, 7, 9, 12, 16):
            self.check(turn, (width, UPWARDS[:width]), [-1])

    def test_all_lengths(self):
        for width in (2, 4, 8):
            for n in range(0, 257, width):
                row = UPWARDS[-n:] if n else []
                turned = []
                for start in range(0, n, width):
                    turned += row[start:start + width][::-1]
                self.check(turn, (width, row), [0] + turned)

    def test_twice_gives_the_row_again(self):
        for width in (2, 4, 8):
            for row in (UPWARDS[:8], UPWARDS, UPWARDS[::-1] * 16, [9] * 16):
                once = self.answer_of(turn, (width, row))
                self.check(turn, (width, once[1:]), [0] + row)

    def test_longest_row(self):
        row = UPWARDS * 16
        self.check(turn, (2, row), [0] + [byte ^ 1 for byte in row])
        self.check(turn, (4, row), [0] + [byte ^ 3 for byte in row])
        self.check(turn, (8, row), [0] + [byte ^ 7 for byte in row])
        for width in (2, 4, 8):
            self.assertEqual(len(self.answer_of(turn, (width, row))), 4097)
            self.check(turn, (width, row[1:]), [-1])
        self.check(turn, (4, row[2:]), [-1])
        self.check(turn, (8, row[4:]), [-1])
        for width in OTHER_WIDTHS:
            self.check(turn, (width, row), [-1])

    def test_nothing_is_kept_when_the_row_changes_between_calls(self):
        row = [1, 2]
        self.assertEqual(turn(2, row), [0, 2, 1])
        row[0] = 9
        self.assertEqual(turn(2, row), [0, 2, 9])
        row.append(3)
        self.assertEqual(turn(2, row), [-1])


if __name__ == "__main__":
    unittest.main()
