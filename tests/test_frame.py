"""Promise 9: frame."""

import unittest

from byterows.rows import frame
from checks import NINE, UPWARDS, CallTest, divided, framed

HIGHEST_CAP = 2**64 - 1


class FrameTest(CallTest):
    def check_caps(self, row):
        size = len(row) + 8
        whole = [size] + framed(row)
        self.assertEqual(len(whole), size + 1)
        for cap in (size, size + 1, size + 4096, HIGHEST_CAP - 1, HIGHEST_CAP):
            self.check(frame, (cap, row), whole)
        for cap in (0, 1, 7, size // 2, size - 4, size - 1):
            self.check(frame, (cap, row), [0])

    def test_names(self):
        self.check_names(frame, ["cap", "p"])

    def test_empty_row(self):
        # 48674BC7 is the sum of four bytes 0.
        whole = [8, 0, 0, 0, 0, 0x48, 0x67, 0x4B, 0xC7]
        for cap in (8, 9, 16, 4096, HIGHEST_CAP):
            self.check(frame, (cap, []), whole)
        for cap in (7, 1, 0):
            self.check(frame, (cap, []), [0])

    def test_every_short_cap(self):
        for cap in range(40):
            expected = [17] + framed(NINE) if cap >= 17 else [0]
            self.check(frame, (cap, NINE), expected)

    def test_lengths_around_the_edges_of_a_byte(self):
        for n in (1, 2, 3, 254, 255, 256, 257, 511, 512):
            self.check_caps((UPWARDS * 3)[-n:])

    def test_longest_row(self):
        self.check_caps(UPWARDS * 16)
        self.check_caps([0] * 4096)
        self.check_caps([255] * 4095)

    def test_length_ahead_highest_first(self):
        for n, ahead in ((0, [0, 0, 0, 0]), (1, [0, 0, 0, 1]), (255, [0, 0, 0, 255]), (256, [0, 0, 1, 0]),
                         (257, [0, 0, 1, 1]), (4095, [0, 0, 15, 255]), (4096, [0, 0, 16, 0])):
            answer = self.answer_of(frame, (HIGHEST_CAP, [7] * n))
            self.assertEqual(answer[0], n + 8)
            self.assertEqual(answer[1:5], ahead)
            self.assertEqual(answer[5:-4], [7] * n)

    def test_sum_behind_highest_first(self):
        for row in ([], [0], [255], NINE, UPWARDS, UPWARDS * 16):
            answer = self.answer_of(frame, (HIGHEST_CAP, row))
            behind = answer[-4] * 2**24 + answer[-3] * 2**16 + answer[-2] * 2**8 + answer[-1]
            self.assertEqual(behind, divided(0, answer[1:-4]))

    def test_every_byte_alone(self):
        for byte in UPWARDS:
            self.check(frame, (9, [byte]), [9] + framed([byte]))

    def test_frame_of_a_frame(self):
        inner = framed(NINE)
        self.check(frame, (25, inner), [25] + framed(inner))
        self.check(frame, (24, inner), [0])

    def test_nothing_is_kept_when_the_row_changes_between_calls(self):
        row = [1, 2]
        self.assertEqual(frame(10, row), [10] + framed([1, 2]))
        row[1] = 3
        self.assertEqual(frame(10, row), [10] + framed([1, 3]))
        row.append(4)
        self.assertEqual(frame(10, row), [0])


if __name__ == "__main__":
    unittest.main()
