"""Promise 6: sum, here called sum_of."""

import itertools
import unittest

from byterows.rows import sum_of
from checks import HIGHEST, NINE, UPWARDS, CallTest, divided


class SumOfTest(CallTest):
    def test_names(self):
        self.check_names(sum_of, ["before", "p"])

    def test_the_nine_bytes(self):
        self.check(sum_of, (0, NINE), [0xE3069283])

    def test_published_sums(self):
        # RFC 3720, B.4.
        self.check(sum_of, (0, [0] * 32), [0x8A9136AA])
        self.check(sum_of, (0, [255] * 32), [0x62A8AB43])
        self.check(sum_of, (0, UPWARDS[:32]), [0x46DD794E])
        self.check(sum_of, (0, UPWARDS[:32][::-1]), [0x113FDB5C])

    def test_empty_row_answers_before(self):
        for before in (0, 1, 255, 256, 2147483647, 2147483648, 0xE3069283, HIGHEST - 1, HIGHEST):
            self.check(sum_of, (before, []), [before])

    def test_highest_before(self):
        # All ones turned are all zeros, and zeros gone on by a byte 0 stay zeros.
        self.check(sum_of, (HIGHEST, [0]), [HIGHEST])
        self.check(sum_of, (HIGHEST, [0, 0, 0]), [HIGHEST])
        self.check(sum_of, (HIGHEST, [128]), [HIGHEST ^ 0x82F63B78])
        self.check(sum_of, (HIGHEST, NINE), [divided(HIGHEST, NINE)])

    def test_cut_in_two_at_each_place(self):
        for row in (NINE, UPWARDS, [0] * 20, [255] * 20):
            whole = sum_of(0, row)
            for cut in range(len(row) + 1):
                first = sum_of(0, row[:cut])[0]
                self.check(sum_of, (first, row[cut:]), whole)

    def test_cut_into_single_bytes(self):
        total = 0
        for byte in NINE:
            total = self.answer_of(sum_of, (total, [byte]))[0]
        self.assertEqual(total, 0xE3069283)

    def test_all_bytes(self):
        self.check(sum_of, (0, UPWARDS), [divided(0, UPWARDS)])
        self.check(sum_of, (0, UPWARDS[::-1]), [divided(0, UPWARDS[::-1])])

    def test_every_byte_alone(self):
        for byte in UPWARDS:
            for before in (0, 1, 0x80000000, 0x12345678, HIGHEST):
                self.check(sum_of, (before, [byte]), [divided(before, [byte])])

    def test_leading_and_trailing_zeros_count(self):
        sums = [self.answer_of(sum_of, (0, row))[0] for row in ([5], [0, 5], [5, 0], [0, 5, 0], [], [0], [0, 0])]
        self.assertEqual(len(set(sums)), len(sums))

    def test_longest_row(self):
        for row in ([0] * 4096, [255] * 4096, UPWARDS * 16, [1] + [0] * 4095, [0] * 4095 + [1]):
            self.check(sum_of, (0, row), [divided(0, row)])
            self.check(sum_of, (0xDEADBEEF, row), [divided(0xDEADBEEF, row)])

    def test_all_short_rows(self):
        for n in range(4):
            for row in itertools.product((0, 1, 128, 255), repeat=n):
                for before in (0, 1, HIGHEST):
                    self.check(sum_of, (before, list(row)), [divided(before, row)])

    def test_nothing_is_kept_when_the_row_changes_between_calls(self):
        row = list(NINE)
        self.assertEqual(sum_of(0, row), [0xE3069283])
        row[8] = 56
        self.assertEqual(sum_of(0, row), [divided(0, row)])
        self.assertEqual(sum_of(0, NINE), [0xE3069283])


if __name__ == "__main__":
    unittest.main()
