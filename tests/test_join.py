"""Promise 7: join."""

import unittest

from byterows.rows import join, sum_of
from checks import HIGHEST, NINE, UPWARDS, CallTest, divided, good_time

SOME_SUMS = (0, 1, 0x80, 0x12345678, 0x7FFFFFFF, 0x80000000, 0xE3069283, HIGHEST)
LARGE = (2**31, 2**32 - 1, 2**32, 2**32 + 1, 10**18 + 7, 2**63 - 1, 2**63, 2**64 - 2, 2**64 - 1)


def one_by_one(a, n):
    """a gone on by n bytes 0, one bit after the other."""
    for step in range(8 * n):
        a = (a >> 1) ^ (0x82F63B78 if a & 1 else 0)
    return a


class JoinTest(CallTest):
    def test_names(self):
        self.check_names(join, ["a", "b", "n"])

    def test_the_nine_bytes(self):
        first = sum_of(0, NINE[:4])[0]
        second = sum_of(0, NINE[4:])[0]
        self.check(join, (first, second, 5), [0xE3069283])

    def test_cut_in_two_at_each_place(self):
        for row in (NINE, UPWARDS, UPWARDS[::-1], [0] * 20, [255] * 20, [7], []):
            whole = sum_of(0, row)
            for cut in range(len(row) + 1):
                first = sum_of(0, row[:cut])[0]
                second = sum_of(0, row[cut:])[0]
                self.check(join, (first, second, len(row) - cut), whole)

    def test_second_row_of_many_lengths(self):
        for n in (1, 2, 3, 255, 256, 4096):
            second = (UPWARDS * 16)[-n:]
            for first in ([], [0], [255], NINE):
                arguments = (divided(0, first), divided(0, second), n)
                self.check(join, arguments, [divided(0, first + second)])

    def test_n_of_0_combines_a_and_b(self):
        for a in SOME_SUMS:
            for b in SOME_SUMS:
                self.check(join, (a, b, 0), [a ^ b])

    def test_a_of_0_answers_b(self):
        with good_time():
            for b in SOME_SUMS:
                for n in (0, 1, 2, 3, 255, 256, 4096) + LARGE:
                    self.check(join, (0, b, n), [b])

    def test_b_of_0(self):
        for a in SOME_SUMS:
            for n in (0, 1, 2, 3, 255, 256, 4096):
                self.check(join, (a, 0, n), [one_by_one(a, n)])

    def test_worked_by_hand(self):
        # The highest bit goes down by eight places a byte, and is the polynomial once it has gone out.
        self.check(join, (0x80000000, 0, 1), [0x00800000])
        self.check(join, (0x80000000, 0, 2), [0x00008000])
        self.check(join, (0x80000000, 0, 3), [0x00000080])
        self.check(join, (0x80000000, 0, 4), [0x82F63B78])
        self.check(join, (0x80000000, 0x0000FFFF, 4), [0x82F6C487])

    def test_a_and_b_highest(self):
        for n in (0, 1, 2, 3, 4, 255, 256, 4096):
            self.check(join, (HIGHEST, HIGHEST, n), [one_by_one(HIGHEST, n) ^ HIGHEST])

    def test_b_that_is_no_sum_of_n_bytes(self):
        of_one_byte = [divided(0, [byte]) for byte in UPWARDS]
        for b in (0, 1, 2, 0x80000000, 0xE3069283, HIGHEST):
            self.assertNotIn(b, of_one_byte)
            for a in SOME_SUMS:
                self.check(join, (a, b, 1), [one_by_one(a, 1) ^ b])
        # An empty row has the sum 0 and no other.
        self.check(join, (5, 9, 0), [12])

    def test_each_bit_of_a(self):
        for k in range(32):
            for n in (1, 3, 4, 5, 100):
                self.check(join, (1 << k, 0, n), [one_by_one(1 << k, n)])

    def test_every_n_up_to_300(self):
        for n in range(301):
            self.check(join, (0xDEADBEEF, 0x12345678, n), [one_by_one(0xDEADBEEF, n) ^ 0x12345678])

    def test_n_a_little_larger_than_the_longest_row(self):
        for n in (4095, 4096, 4097, 4099, 5000):
            for a in (1, 0xE3069283, HIGHEST):
                self.check(join, (a, 0x0F0F0F0F, n), [one_by_one(a, n) ^ 0x0F0F0F0F])

    def test_large_n(self):
        # 1EDC6F41 is x + 1 times a primitive polynomial of degree 31: after 2^31 - 1 bytes 0 all is as before.
        around = 2**31 - 1
        with good_time():
            for a in SOME_SUMS:
                self.check(join, (a, 7, around), [a ^ 7])
                self.check(join, (a, 7, 2**32), [one_by_one(a, 2) ^ 7])
                self.check(join, (a, 7, 2**63), [one_by_one(a, 2) ^ 7])
                self.check(join, (a, 7, 2**64 - 1), [one_by_one(a, 3) ^ 7])
                self.check(join, (a, 7, 1000 * around + 500), [one_by_one(a, 500) ^ 7])

    def test_two_steps_are_one(self):
        counts = (0, 1, 2, 255, 4096, 10**6 + 3) + LARGE
        with good_time():
            for a in (1, 0xE3069283, HIGHEST):
                for first in counts:
                    for second in counts:
                        if first + second < 2**64:
                            between = self.answer_of(join, (a, 0, first))[0]
                            together = self.answer_of(join, (a, 0, first + second))
                            self.assertEqual(self.answer_of(join, (between, 0, second)), together)

    def test_three_rows(self):
        rows = (NINE, UPWARDS, [0, 0, 0])
        sums = [divided(0, row) for row in rows]
        first_two = self.answer_of(join, (sums[0], sums[1], 256))[0]
        last_two = self.answer_of(join, (sums[1], sums[2], 3))[0]
        whole = [divided(0, rows[0] + rows[1] + rows[2])]
        self.check(join, (first_two, sums[2], 3), whole)
        self.check(join, (sums[0], last_two, 259), whole)


if __name__ == "__main__":
    unittest.main()
