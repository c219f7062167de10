"""Promise 10: next, here called next_frame."""

import itertools
import unittest

from byterows.rows import frame, next_frame
from checks import NINE, UPWARDS, CallTest, divided, framed, good_time

HIGHEST_CAP = 2**64 - 1


def with_sum(row):
    """The row with its right sum behind it, whatever its first four bytes tell."""
    return row + list(divided(0, row).to_bytes(4, "big"))


def searched(row):
    """The answer the other way: each part of the row that could be a frame is held against the frame it would be."""
    for place in range(len(row)):
        for length in range(len(row) - place - 8 + 1):
            if row[place:place + 4] == list(length.to_bytes(4, "big")):
                if row[place:place + length + 8] == framed(row[place + 4:place + 4 + length]):
                    return [place, length]
    return [len(row), 0]


class NextFrameTest(CallTest):
    def check_none(self, row):
        self.check(next_frame, (row,), [len(row), 0])

    def test_names(self):
        self.check_names(next_frame, ["p"])

    def test_just_one_frame(self):
        # 48674BC7 is the sum of four bytes 0.
        self.check(next_frame, ([0, 0, 0, 0, 0x48, 0x67, 0x4B, 0xC7],), [0, 0])
        for row in ([], [0], [5], [255], NINE, UPWARDS, UPWARDS[1:], UPWARDS + [7], [0] * 300, [255] * 300):
            self.check(next_frame, (framed(row),), [0, len(row)])

    def test_longest_frame(self):
        for row in ((UPWARDS * 16)[:4088], [0] * 4088, [255] * 4088):
            whole = framed(row)
            self.assertEqual(len(whole), 4096)
            self.check(next_frame, (whole,), [0, 4088])

    def test_other_bytes_around(self):
        for row in ([], [1], NINE, UPWARDS):
            whole = framed(row)
            for other in ([7], [255] * 3, [9] * 4, UPWARDS[1:], [0xC7, 0x4B]):
                self.check(next_frame, (other + whole,), [len(other), len(row)])
                self.check(next_frame, (whole + other,), [0, len(row)])
                self.check(next_frame, (other + whole + other,), [len(other), len(row)])

    def test_bytes_0_around(self):
        for count in range(1, 12):
            for row in ([], [5], NINE):
                self.check(next_frame, ([0] * count + framed(row) + [0] * count,), [count, len(row)])

    def test_at_the_very_end_of_the_longest_row(self):
        self.check(next_frame, ([9] * 4088 + framed([]),), [4088, 0])
        self.check(next_frame, ([9] * 4087 + framed([6]),), [4087, 1])
        self.check(next_frame, ([0] * 4000 + framed([9] * 88),), [4000, 88])
        self.check(next_frame, ([9] * 1000 + framed(UPWARDS * 8) + [9] * 1040,), [1000, 2048])
        self.check_none([9] * 4089 + framed([])[:7])

    def test_two_frames_tell_the_first(self):
        self.check(next_frame, (framed(NINE) + framed([1, 2]),), [0, 9])
        self.check(next_frame, (framed([]) + framed(NINE),), [0, 0])
        self.check(next_frame, ([8] + framed([1, 2]) + [8] + framed(NINE),), [1, 2])

    def test_first_frame_broken_tells_the_second(self):
        broken = framed([1, 2])
        broken[4] = 9
        self.check(next_frame, (broken + framed(NINE),), [10, 9])
        self.check(next_frame, (framed([1, 2])[:-1] + framed(NINE),), [9, 9])

    def test_frame_within_a_frame(self):
        inner = framed([1, 2, 3])
        outer = framed([8, 8] + inner + [9])
        self.check(next_frame, (outer,), [0, 14])
        self.check(next_frame, ([7] + outer + [7],), [1, 14])
        self.check(next_frame, (framed(outer),), [0, 22])
        outer[-1] ^= 1
        self.check(next_frame, (outer,), [6, 3])
        self.check(next_frame, ([7] + outer + [7],), [7, 3])

    def test_frame_within_a_cut_frame(self):
        outer = framed(framed(NINE))
        self.check(next_frame, (outer[:-1],), [4, 9])
        self.check(next_frame, (outer[1:],), [3, 9])
        self.check(next_frame, (outer[4:],), [0, 9])
        self.check_none(outer[5:])

    def test_bytes_missing(self):
        for row in ([], [5], NINE):
            whole = framed(row)
            for cut in range(len(whole)):
                self.check_none(whole[:cut])
                self.check_none(whole[cut + 1:])

    def test_each_bit_wrong(self):
        # One wrong bit in the length, the row or the sum is always found out.
        whole = framed(NINE)
        for place, k in itertools.product(range(len(whole)), range(8)):
            wrong = list(whole)
            wrong[place] ^= 1 << k
            self.check_none(wrong)
            self.check_none([9] + wrong + [9])

    def test_length_larger_than_what_is_left(self):
        for tells in (10, 11, 17, 200, 255):
            self.check_none(with_sum([0, 0, 0, tells] + NINE))
        self.check_none([0, 0, 0, 1, 0, 0, 0, 0])
        self.check_none(with_sum([0, 0, 16, 0] + [5] * 4088))
        self.check_none(with_sum([0, 0, 15, 249] + [5] * 4088))

    def test_length_smaller_than_the_row(self):
        self.check_none(with_sum([0, 0, 0, 8] + NINE))
        self.check_none(with_sum([0, 0, 0, 0] + NINE))

    def test_length_with_its_highest_bytes_not_0(self):
        for ahead in ([1, 0, 0, 9], [0, 1, 0, 9], [128, 0, 0, 9], [255, 0, 0, 9], [255, 255, 255, 255], [9, 0, 0, 0]):
            self.check_none(with_sum(ahead + NINE))
        # As numbers with a sign these would be -1 to -8.
        for low in range(248, 256):
            self.check_none([255, 255, 255, low] * 2)
            self.check_none([0] * 4 + [255, 255, 255, low] + [0] * 8)

    def test_other_forms_are_no_frames(self):
        lowest_first = divided(0, [0, 0, 0, 9] + NINE).to_bytes(4, "little")
        self.check_none([0, 0, 0, 9] + NINE + list(lowest_first))
        self.check_none([0, 0, 0, 9] + with_sum(NINE))
        self.check_none(with_sum([0, 9] + NINE))
        self.check_none(with_sum([0, 0, 0, 17] + NINE))

    def test_short_rows(self):
        self.check_none([])
        for n in range(1, 8):
            for byte in (0, 5, 255):
                self.check_none([byte] * n)
            self.check_none(framed([])[:n])
            self.check_none(framed([])[-n:])

    def test_no_frame(self):
        for row in (NINE, UPWARDS, UPWARDS * 16, [0] * 8, [255] * 8, [0] * 4096, [255] * 4096):
            self.check_none(row)

    def test_every_place_tells_a_length_that_fits(self):
        with good_time():
            self.check_none([0] * 4092 + [1, 2, 3, 4])
            self.check_none([0] * 4092 + [0x48, 0x67, 0x4B, 0xC6])
            self.check(next_frame, ([0] * 4092 + [0x48, 0x67, 0x4B, 0xC7],), [4088, 0])

    def test_many_long_lengths_that_fit(self):
        with good_time():
            for pattern in ([0, 0, 7], [0, 0, 5], [0, 0, 0, 7], [0, 0, 1, 0], [0, 0, 15, 0, 0]):
                row = (pattern * 4096)[:4096]
                self.check_none(row)
                self.check(next_frame, (row[:3900] + framed([9] * 100) + [0] * 88,), [3900, 100])

    def test_frames_are_found_again(self):
        for n in (0, 1, 2, 3, 4, 7, 8, 9, 255, 256, 257, 1000, 4000):
            row = (UPWARDS[::-1] * 16)[:n]
            answer = frame(HIGHEST_CAP, row)
            for ahead, behind in ((0, 0), (1, 0), (0, 1), (5, 3), (40, 40)):
                among = [170] * ahead + answer[1:] + [170] * behind
                self.check(next_frame, (among,), [ahead, n])
                self.assertEqual(among[ahead + 4:ahead + 4 + n], row)

    def test_frames_one_behind_the_other_are_found_in_turn(self):
        rows = [NINE, [], [0, 0, 0, 0], UPWARDS, [255]]
        left = []
        for row in rows:
            left += [3, 3] + frame(HIGHEST_CAP, row)[1:]
        found = []
        while left:
            place, length = self.answer_of(next_frame, (left,))
            found.append(left[place + 4:place + 4 + length])
            left = left[place + length + 8:]
        self.assertEqual(found, rows)

    def test_pieces_in_every_order(self):
        wrong = framed([4])
        wrong[-1] ^= 255
        pieces = ([0], [255], [0, 0, 0], framed([]), framed([0]), framed(framed([])), wrong, framed(NINE)[:-1])
        for count in range(4):
            for chosen in itertools.product(pieces, repeat=count):
                row = list(itertools.chain.from_iterable(chosen))
                self.check(next_frame, (row,), searched(row))

    def test_nothing_is_kept_when_the_row_changes_between_calls(self):
        row = framed([1, 2])
        self.assertEqual(next_frame(row), [0, 2])
        row[4] = 9
        self.assertEqual(next_frame(row), [10, 0])
        row[4] = 1
        row.insert(0, 5)
        self.assertEqual(next_frame(row), [1, 2])


if __name__ == "__main__":
    unittest.main()
