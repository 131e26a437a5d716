"""Point 5: times."""

import unittest

from calls import OTHER_INTS, STEPS, TOP, TOPS, ZEROS, CallTest, mixed_rows
from longs import bits_of_long, long_of_bits, row_of_longs
from sixteenwordsdesk.rows import times

D = 2**52
TOP_LONG = 2**64 - 1
# The edges that are asked for, and others whose bits above the lowest 52 must not count.
EDGES = [0, 1, 2, D - 2, D - 1, D, D + 1, 2 * D - 1, 2**53 + 3, 2**63, TOP_LONG - D, TOP_LONG]
SUMS = [0, 1, D - 1, D, 2**63, TOP_LONG - D + 1, TOP_LONG - 1, TOP_LONG]


def longs(row):
    return [long_of_bits(bits_of_long(row, i)) for i in range(8)]


def expected_times(part, s, x, y):
    """The product's 104 bits as a text, cut in the middle."""
    answer = []
    for start, one, other in zip(longs(s), longs(x), longs(y)):
        one = int(format(one, "064b")[12:], 2)
        other = int(format(other, "064b")[12:], 2)
        digits = format(one * other, "0104b")
        added = start + int(digits[52:] if part == 0 else digits[:52], 2)
        answer.append(int(format(added, "065b")[-64:], 2))
    return row_of_longs(answer)


class TimesTest(CallTest):
    def check_longs(self, part, s, x, y, expected):
        rows = (row_of_longs([s] * 8), row_of_longs([x] * 8), row_of_longs([y] * 8))
        self.check(times, (part,) + rows, row_of_longs([expected] * 8))

    def test_arguments(self):
        self.check_arguments(times, ["part", "s", "x", "y"])

    def test_small_products(self):
        self.check_longs(0, 10, 6, 7, 52)
        self.check_longs(1, 10, 6, 7, 10)
        self.check_longs(0, 0, 1, 1, 1)
        self.check_longs(1, 0, 1, 1, 0)

    def test_both_parts_of_one_product(self):
        self.check_longs(0, 0, 2**51, 6, 0)
        self.check_longs(1, 0, 2**51, 6, 3)
        self.check_longs(0, 0, 2**51 + 1, 7, 2**51 + 7)
        self.check_longs(1, 0, 2**51 + 1, 7, 3)

    def test_greatest_digits(self):
        # (D - 1) (D - 1) is (D - 2) D + 1.
        for top in (D - 1, 2 * D - 1, TOP_LONG):
            self.check_longs(0, 0, top, D - 1, 1)
            self.check_longs(1, 0, top, D - 1, D - 2)
            self.check_longs(0, 0, D - 1, top, 1)
            self.check_longs(1, 0, D - 1, top, D - 2)

    def test_two_to_the_52_counts_as_0(self):
        for part in (0, 1):
            self.check_longs(part, 5, D, D - 1, 5)
            self.check_longs(part, 5, D - 1, D, 5)
            self.check_longs(part, 5, D, D, 5)
            self.check_longs(part, 5, 3 * D, TOP_LONG, 5)

    def test_two_to_the_52_and_1_counts_as_1(self):
        for other in (0, 1, 77, D - 1):
            self.check_longs(0, 5, D + 1, other, 5 + other)
            self.check_longs(0, 5, other, D + 1, 5 + other)
            self.check_longs(1, 5, D + 1, other, 5)
            self.check_longs(1, 5, other, D + 1, 5)

    def test_times_0(self):
        for part in (0, 1):
            for other in EDGES:
                self.check_longs(part, 9, 0, other, 9)
                self.check_longs(part, 9, other, 0, 9)

    def test_sums_at_and_over_the_top(self):
        self.check_longs(0, TOP_LONG - 6, 2, 3, TOP_LONG)
        self.check_longs(0, TOP_LONG - 5, 2, 3, 0)
        self.check_longs(0, TOP_LONG, 2, 3, 5)
        self.check_longs(0, TOP_LONG, 1, D - 1, D - 2)
        self.check_longs(1, TOP_LONG - 3, 2**51, 6, TOP_LONG)
        self.check_longs(1, TOP_LONG - 2, 2**51, 6, 0)
        self.check_longs(1, TOP_LONG, D - 1, D - 1, D - 3)

    def test_sums_beyond_52_bits_are_kept(self):
        self.check_longs(0, D - 1, 1, 1, D)
        self.check_longs(0, 2**63 - 1, 1, 1, 2**63)
        self.check_longs(1, 2**32 - 1, D - 1, D - 1, D + 2**32 - 3)

    def test_a_sum_over_the_top_stays_in_its_long(self):
        s = row_of_longs([TOP_LONG, 0] * 4)
        self.check(times, (0, s, [1, 0] * 8, [1, 0] * 8), row_of_longs([0, 1] * 4))
        s = row_of_longs([0, TOP_LONG] * 4)
        self.check(times, (0, s, [1, 0] * 8, [1, 0] * 8), row_of_longs([1, 0] * 4))

    def test_s_all_0_and_all_ones(self):
        for x, y in zip(mixed_rows(3, 51), mixed_rows(3, 52)):
            for part in (0, 1):
                for s in (ZEROS, TOPS):
                    self.check(times, (part, s, x, y), expected_times(part, s, x, y))

    def test_edges_with_edges(self):
        for x in EDGES:
            for first in range(0, len(EDGES), 4):
                eight = (EDGES + EDGES)[first : first + 8]
                rows = (row_of_longs(SUMS), row_of_longs([x] * 8), row_of_longs(eight))
                for part in (0, 1):
                    self.check(times, (part,) + rows, expected_times(part, *rows))

    def test_each_long_by_itself(self):
        for i in range(8):
            eight = [0] * 8
            eight[i] = D - 1
            x = row_of_longs(eight)
            eight[i] = 1
            self.check(times, (0, ZEROS, x, TOPS), row_of_longs(eight))
            eight[i] = D - 2
            self.check(times, (1, ZEROS, x, TOPS), row_of_longs(eight))

    def test_another_part(self):
        s, x, y = mixed_rows(3, 53)
        for part in OTHER_INTS + [2]:
            self.check(times, (part, s, x, y), s)
            self.check(times, (part, ZEROS, TOPS, TOPS), ZEROS)
            self.check(times, (part, TOPS, STEPS, STEPS), TOPS)

    def test_edges_of_numbers(self):
        for part in (0, 1):
            self.check(times, (part, ZEROS, ZEROS, ZEROS), ZEROS)
            self.check(times, (part, TOPS, ZEROS, TOPS), TOPS)
        self.check(times, (0, ZEROS, TOPS, TOPS), [1, 0] * 8)
        self.check(times, (1, ZEROS, TOPS, TOPS), [TOP - 1, 2**20 - 1] * 8)
        self.check(times, (0, TOPS, TOPS, TOPS), ZEROS)
        self.check(times, (1, TOPS, TOPS, TOPS), [TOP - 2, 2**20 - 1] * 8)

    def test_one_list_as_all(self):
        for s in mixed_rows(3, 54):
            for part in (0, 1):
                self.check(times, (part, s, s, s), expected_times(part, s, s, s))

    def test_mixed(self):
        for s, x, y in zip(mixed_rows(20, 55), mixed_rows(20, 56), mixed_rows(20, 57)):
            for part in (0, 1):
                self.check(times, (part, s, x, y), expected_times(part, s, x, y))


if __name__ == "__main__":
    unittest.main()
