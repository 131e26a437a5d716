"""Point 7: apart."""

import unittest

from calls import STEPS, TOP, TOPS, ZEROS, CallTest, mixed_rows
from longs import bytes_of_row, row_of_bytes, row_of_longs
from sixteenwordsdesk.rows import apart

SAME_ORDER = 228
HOWS = [0, 1, 2, 3, 4, 16, 27, 64, 78, 85, 114, 147, 170, 177, 228, 255]


def row_of_sums(sums):
    """The sixteen words of 32 sums of 16 bits, the lowest first."""
    return [sums[2 * i] + sums[2 * i + 1] * 65536 for i in range(16)]


def reordered(how, y):
    """y's bytes, each fourth's words in the order that how's two-bit digits tell."""
    digits = format(how, "032b")[-8:]
    order = [int(digits[6:8], 2), int(digits[4:6], 2), int(digits[2:4], 2), int(digits[0:2], 2)]
    answer = []
    for fourth in (y[0:4], y[4:8], y[8:12], y[12:16]):
        answer.extend(fourth[number] for number in order)
    return bytes_of_row(answer)


def distance(ones, others):
    return sum(max(one, other) - min(one, other) for one, other in zip(ones, others, strict=True))


def expected_apart(how, x, y):
    a_bytes = bytes_of_row(x)
    b_bytes = reordered(how, y)
    sums = []
    for start in range(0, 64, 8):
        a = a_bytes[start : start + 8]
        b = b_bytes[start : start + 8]
        sums.append(distance(a[0:4], b[0:4]))
        sums.append(distance(a[0:4], b[1:5]))
        sums.append(distance(a[4:8], b[2:6]))
        sums.append(distance(a[4:8], b[3:7]))
    return row_of_sums(sums)


class ApartTest(CallTest):
    def test_arguments(self):
        self.check_arguments(apart, ["how", "x", "y"])

    def test_four_sums(self):
        x = row_of_bytes([10, 20, 30, 40, 50, 60, 70, 80] * 8)
        y = row_of_bytes([1, 2, 4, 8, 16, 32, 64, 128] * 8)
        # 9 + 18 + 26 + 32; 8 + 16 + 22 + 24; 46 + 52 + 54 + 48; 42 + 44 + 38 + 16
        self.check(apart, (SAME_ORDER, x, y), row_of_sums([85, 70, 200, 140] * 8))
        # 9 + 18 + 26 + 32; 19 + 28 + 36 + 42; 14 + 8 + 14 + 68; 24 + 18 + 4 + 58
        self.check(apart, (SAME_ORDER, y, x), row_of_sums([85, 125, 104, 104] * 8))

    def test_equal_bytes_throughout(self):
        x = row_of_bytes([77] * 64)
        for how in HOWS:
            self.check(apart, (how, x, x), ZEROS)
            self.check(apart, (how, x, list(x)), ZEROS)

    def test_equal_rows(self):
        x = row_of_bytes([1, 3, 6, 10, 15, 21, 28, 36] * 8)
        # a0 to a3 from themselves; from b1 to b4; a4 to a7 from b2 to b5; from b3 to b6
        expected = [0, 2 + 3 + 4 + 5, 9 + 11 + 13 + 15, 5 + 6 + 7 + 8]
        self.check(apart, (SAME_ORDER, x, x), row_of_sums(expected * 8))
        self.check(apart, (SAME_ORDER, x, list(x)), row_of_sums(expected * 8))

    def test_either_byte_the_greater(self):
        high = row_of_bytes([200] * 64)
        low = row_of_bytes([50] * 64)
        self.check(apart, (SAME_ORDER, high, low), row_of_sums([600] * 32))
        self.check(apart, (SAME_ORDER, low, high), row_of_sums([600] * 32))

    def test_distances_do_not_cancel(self):
        x = row_of_bytes([100, 0] * 32)
        y = row_of_bytes([0, 100] * 32)
        self.check(apart, (SAME_ORDER, x, y), row_of_sums([400, 0, 400, 0] * 8))

    def test_greatest_sums(self):
        for how in HOWS:
            self.check(apart, (how, TOPS, ZEROS), row_of_sums([1020] * 32))
            self.check(apart, (how, ZEROS, TOPS), row_of_sums([1020] * 32))

    def test_edges_of_numbers(self):
        for how in (0, SAME_ORDER, TOP):
            self.check(apart, (how, ZEROS, ZEROS), ZEROS)
            self.check(apart, (how, TOPS, TOPS), ZEROS)
        # Long's lower word all ones in x: the lower two sums alone.
        self.check(apart, (0, [TOP, 0] * 8, ZEROS), row_of_sums([1020, 1020, 0, 0] * 8))
        self.check(apart, (0, [0, TOP] * 8, ZEROS), row_of_sums([0, 0, 1020, 1020] * 8))

    def test_each_byte_of_x_goes_into_its_two_sums(self):
        for k in range(64):
            octets = [0] * 64
            octets[k] = k + 1
            sums = [0] * 32
            lower = 4 * (k // 8) + (0 if k % 8 < 4 else 2)
            sums[lower] = sums[lower + 1] = k + 1
            self.check(apart, (SAME_ORDER, row_of_bytes(octets), ZEROS), row_of_sums(sums))

    def test_each_byte_of_y_goes_into_its_sums(self):
        # By byte of eight, which of the four sums it goes into; b7 into none.
        into = [[0], [0, 1], [0, 1, 2], [0, 1, 2, 3], [1, 2, 3], [2, 3], [3], []]
        for k in range(64):
            octets = [0] * 64
            octets[k] = k + 1
            sums = [0] * 32
            for number in into[k % 8]:
                sums[4 * (k // 8) + number] = k + 1
            self.check(apart, (SAME_ORDER, ZEROS, row_of_bytes(octets)), row_of_sums(sums))

    def test_which_byte_meets_which(self):
        # One byte of x and one of y, both 9: they cancel where they meet.
        starts = [(0, 0), (0, 1), (4, 2), (4, 3)]
        for a in range(8):
            for b in range(8):
                a_octets = [0] * 8
                a_octets[a] = 9
                b_octets = [0] * 8
                b_octets[b] = 9
                sums = []
                for a_start, b_start in starts:
                    a_in = a_start <= a < a_start + 4
                    b_in = b_start <= b < b_start + 4
                    meet = a_in and b_in and a - a_start == b - b_start
                    sums.append(0 if meet else 9 * a_in + 9 * b_in)
                rows = (row_of_bytes(a_octets * 8), row_of_bytes(b_octets * 8))
                self.check(apart, (SAME_ORDER,) + rows, row_of_sums(sums * 8))

    def test_order_of_words(self):
        # Words of equal bytes 1 to 4, 11 to 14, and so on: the sums tell which word came where.
        y = [0x01010101 * (10 * (i // 4) + i % 4 + 1) for i in range(16)]
        orders = {SAME_ORDER: [0, 1, 2, 3], 0: [0, 0, 0, 0], 255: [3, 3, 3, 3], 27: [3, 2, 1, 0], 225: [1, 0, 2, 3]}
        for how, order in orders.items():
            sums = []
            for fourth in range(4):
                words = [10 * fourth + number + 1 for number in order]
                for low, high in (words[0:2], words[2:4]):
                    sums.extend([4 * low, 3 * low + high, 2 * low + 2 * high, low + 3 * high])
            self.check(apart, (how, ZEROS, y), row_of_sums(sums))

    def test_x_keeps_its_order(self):
        x = [0x01010101 * (i + 1) for i in range(16)]
        expected = []
        for low in range(1, 17, 2):
            expected.extend([4 * low, 4 * low, 4 * low + 4, 4 * low + 4])
        for how in HOWS:
            self.check(apart, (how, x, ZEROS), row_of_sums(expected))

    def test_each_fourth_keeps_to_its_own_words(self):
        for fourth in range(4):
            y = [0] * 16
            y[4 * fourth : 4 * fourth + 4] = [TOP] * 4
            sums = [0] * 32
            sums[8 * fourth : 8 * fourth + 8] = [1020] * 8
            for how in HOWS:
                self.check(apart, (how, ZEROS, y), row_of_sums(sums))

    def test_every_how(self):
        x, y = mixed_rows(2, 71)
        for how in range(256):
            self.check(apart, (how, x, y), expected_apart(how, x, y))

    def test_what_stands_above_eight_bits_does_not_count(self):
        x, y = mixed_rows(2, 72)
        for above in (256, 512, 65536, 2**31, TOP - 255):
            for low in (0, 27, SAME_ORDER, 255):
                self.check(apart, (above + low, x, y), expected_apart(low, x, y))
        self.check(apart, (TOP, x, y), expected_apart(255, x, y))
        self.check(apart, (256, x, y), expected_apart(0, x, y))

    def test_longs_do_not_reach_into_one_another(self):
        x = row_of_longs([0, 2**64 - 1] * 4)
        self.check(apart, (SAME_ORDER, x, x), ZEROS)

    def test_mixed(self):
        for x, y in zip(mixed_rows(20, 73), mixed_rows(20, 74)):
            for how in (SAME_ORDER, x[0], y[15]):
                self.check(apart, (how, x, y), expected_apart(how, x, y))
        for x in mixed_rows(5, 75) + [STEPS]:
            self.check(apart, (x[3], x, x), expected_apart(x[3], x, x))


if __name__ == "__main__":
    unittest.main()
