"""Point 3: turn and join."""

import unittest

from calls import STEPS, TOP, TOPS, ZEROS, CallTest, mixed_rows
from longs import bits_of_long, row_of_bits, row_of_longs
from sixteenwordsdesk.rows import join, turn

A = 0x0123456789ABCDEF
B = 0xFEDCBA9876543210
AMOUNTS = [0, 1, 31, 32, 33, 63, 64, 65]
OTHER_WAYS = [-2147483648, -65, -64, -2, -1, 2, 3, 4, 64, 65, 256, 65536, 2147483647]
# The upper word of a long is a multiple of 64, so it must not count.
ABOVE = [1, 2, 31, 33, 64, 0x80000000, 0xFFFFFFFF, 0x01000001]


def rotations(amounts):
    """The row of amounts, and that row with its longs one place on, and so on."""
    return [amounts[i:] + amounts[:i] for i in range(8)]


def joined_bits(way, one, other, amount):
    if way == 0:
        return (other + one)[64 - amount : 128 - amount]
    return (one + other)[amount : amount + 64]


def expected_join(way, x, y, amounts):
    eight = [joined_bits(way, bits_of_long(x, i), bits_of_long(y, i), amounts[i] % 64) for i in range(8)]
    return row_of_bits(eight)


class TurnTest(CallTest):
    def test_arguments(self):
        self.check_arguments(turn, ["way", "x", "by"])

    def test_left(self):
        by = row_of_longs([0, 1, 4, 8, 32, 60, 63, 64])
        expected = row_of_longs(
            [
                A,
                0x02468ACF13579BDE,
                0x123456789ABCDEF0,
                0x23456789ABCDEF01,
                0x89ABCDEF01234567,
                0xF0123456789ABCDE,
                0x8091A2B3C4D5E6F7,
                A,
            ]
        )
        self.check(turn, (0, row_of_longs([A] * 8), by), expected)

    def test_right(self):
        by = row_of_longs([0, 1, 4, 8, 32, 60, 63, 64])
        expected = row_of_longs(
            [
                A,
                0x8091A2B3C4D5E6F7,
                0xF0123456789ABCDE,
                0xEF0123456789ABCD,
                0x89ABCDEF01234567,
                0x123456789ABCDEF0,
                0x02468ACF13579BDE,
                A,
            ]
        )
        self.check(turn, (1, row_of_longs([A] * 8), by), expected)

    def test_one_bit_goes_round_the_end(self):
        self.check(turn, (0, [0, 2**31] * 8, [1, 0] * 8), [1, 0] * 8)
        self.check(turn, (1, [1, 0] * 8, [1, 0] * 8), [0, 2**31] * 8)

    def test_amounts_in_every_long(self):
        for x in mixed_rows(3, 11):
            for amounts in rotations(AMOUNTS):
                for way in (0, 1):
                    self.check(turn, (way, x, row_of_longs(amounts)), expected_join(way, x, x, amounts))

    def test_every_amount(self):
        x = mixed_rows(1, 12)[0]
        for start in range(0, 136, 8):
            amounts = list(range(start, start + 8))
            for way in (0, 1):
                self.check(turn, (way, x, row_of_longs(amounts)), expected_join(way, x, x, amounts))

    def test_upper_word_of_the_amount_does_not_count(self):
        x = mixed_rows(1, 13)[0]
        amounts = [low + above * 2**32 for low, above in zip(AMOUNTS, ABOVE)]
        for way in (0, 1):
            expected = turn(way, x, row_of_longs(AMOUNTS))
            self.check(turn, (way, x, row_of_longs(amounts)), expected)

    def test_large_amounts(self):
        x = mixed_rows(1, 14)[0]
        for way in (0, 1):
            self.check(turn, (way, x, TOPS), expected_join(way, x, x, [63] * 8))
            self.check(turn, (way, x, [2**31, 0] * 8), x)

    def test_another_way(self):
        x = mixed_rows(1, 15)[0]
        for way in OTHER_WAYS:
            self.check(turn, (way, x, [5, 0] * 8), x)

    def test_edges_of_numbers(self):
        for way in (0, 1, 2):
            self.check(turn, (way, ZEROS, STEPS), ZEROS)
            self.check(turn, (way, TOPS, STEPS), TOPS)
        self.check(turn, (0, [0, TOP] * 8, [32, 0] * 8), [TOP, 0] * 8)

    def test_one_list_as_both(self):
        x = row_of_longs(AMOUNTS)
        for way in (0, 1):
            self.check(turn, (way, x, x), expected_join(way, x, x, AMOUNTS))


class JoinTest(CallTest):
    def test_arguments(self):
        self.check_arguments(join, ["way", "x", "y", "by"])

    def test_left(self):
        by = row_of_longs([0, 4, 8, 32, 60, 63, 64, 68])
        expected = row_of_longs(
            [
                A,
                0x123456789ABCDEFF,
                0x23456789ABCDEFFE,
                0x89ABCDEFFEDCBA98,
                0xFFEDCBA987654321,
                0xFF6E5D4C3B2A1908,
                A,
                0x123456789ABCDEFF,
            ]
        )
        self.check(join, (0, row_of_longs([A] * 8), row_of_longs([B] * 8), by), expected)

    def test_right(self):
        by = row_of_longs([0, 4, 8, 32, 60, 63, 64, 68])
        expected = row_of_longs(
            [
                A,
                0x00123456789ABCDE,
                0x100123456789ABCD,
                0x7654321001234567,
                0xEDCBA98765432100,
                0xFDB97530ECA86420,
                A,
                0x00123456789ABCDE,
            ]
        )
        self.check(join, (1, row_of_longs([A] * 8), row_of_longs([B] * 8), by), expected)

    def test_one_bit_comes_in(self):
        self.check(join, (0, ZEROS, [0, 2**31] * 8, [1, 0] * 8), [1, 0] * 8)
        self.check(join, (1, ZEROS, [1, 0] * 8, [1, 0] * 8), [0, 2**31] * 8)

    def test_amounts_in_every_long(self):
        for x, y in zip(mixed_rows(3, 21), mixed_rows(3, 22)):
            for amounts in rotations(AMOUNTS):
                for way in (0, 1):
                    expected = expected_join(way, x, y, amounts)
                    self.check(join, (way, x, y, row_of_longs(amounts)), expected)

    def test_every_amount(self):
        x, y = mixed_rows(2, 23)
        for start in range(0, 136, 8):
            amounts = list(range(start, start + 8))
            for way in (0, 1):
                expected = expected_join(way, x, y, amounts)
                self.check(join, (way, x, y, row_of_longs(amounts)), expected)

    def test_amounts_0_and_64_leave_x(self):
        x, y = mixed_rows(2, 24)
        for way in (0, 1):
            self.check(join, (way, x, y, ZEROS), x)
            self.check(join, (way, x, y, [64, 0] * 8), x)
            self.check(join, (way, x, y, [0, 1] * 8), x)

    def test_upper_word_of_the_amount_does_not_count(self):
        x, y = mixed_rows(2, 25)
        amounts = [low + above * 2**32 for low, above in zip(AMOUNTS, ABOVE)]
        for way in (0, 1):
            expected = expected_join(way, x, y, AMOUNTS)
            self.check(join, (way, x, y, row_of_longs(amounts)), expected)

    def test_another_way(self):
        x, y = mixed_rows(2, 26)
        for way in OTHER_WAYS:
            self.check(join, (way, x, y, [5, 0] * 8), x)

    def test_edges_of_numbers(self):
        by = [8, 0] * 8
        self.check(join, (0, TOPS, ZEROS, by), [TOP - 255, TOP] * 8)
        self.check(join, (0, ZEROS, TOPS, by), [255, 0] * 8)
        self.check(join, (1, TOPS, ZEROS, by), [TOP, TOP >> 8] * 8)
        self.check(join, (1, ZEROS, TOPS, by), [0, 255 << 24] * 8)
        self.check(join, (1, ZEROS, ZEROS, TOPS), ZEROS)
        self.check(join, (0, TOPS, TOPS, TOPS), TOPS)
        self.check(join, (2, ZEROS, TOPS, TOPS), ZEROS)

    def test_joined_with_itself_is_turned(self):
        x, by = mixed_rows(2, 27)
        for way in (0, 1, 2):
            self.check(join, (way, x, x, by), turn(way, x, by))


if __name__ == "__main__":
    unittest.main()
