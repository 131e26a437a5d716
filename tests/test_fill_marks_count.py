"""Point 8: fill, marks and count."""

import unittest

from calls import OTHER_INTS, STEPS, TOP, TOPS, ZEROS, CallTest, mixed_rows
from sixteenwordsdesk.rows import count, fill, marks

MASKS = [0, 1, 2, 0x8000, 0x4000, 0x8001, 0x5555, 0xAAAA, 0x0FF0, 0x7FFF, 0xFFFE, 0x1234, 65535]
HIGH = 2147483648


def written(number, signs):
    """The bits of a number as a text, bit 0 first."""
    return format(number, f"0{signs}b")[::-1]


def mask_of(told):
    return [sum(2**i for i in range(16) if told[i])]


class FillTest(CallTest):
    def test_arguments(self):
        self.check_arguments(fill, ["m", "what"])

    def test_all_bits_where_in_the_mask(self):
        self.check(fill, (0, 0), ZEROS)
        self.check(fill, (65535, 0), TOPS)
        self.check(fill, (1, 0), [TOP] + [0] * 15)
        self.check(fill, (32768, 0), [0] * 15 + [TOP])
        self.check(fill, (32769, 0), [TOP] + [0] * 14 + [TOP])

    def test_one_bit_alone(self):
        for i in range(16):
            expected = [0] * 16
            expected[i] = TOP
            self.check(fill, (2**i, 0), expected)
            self.check(fill, (2**i, 1), [2**i] * 16)

    def test_each_word_is_the_mask(self):
        for m in MASKS:
            self.check(fill, (m, 1), [m] * 16)

    def test_masks(self):
        for m in MASKS:
            self.check(fill, (m, 0), [TOP if sign == "1" else 0 for sign in written(m, 16)])

    def test_another_what(self):
        for what in OTHER_INTS + [2]:
            for m in MASKS:
                self.check(fill, (m, what), ZEROS)


class MarksTest(CallTest):
    def test_arguments(self):
        self.check_arguments(marks, ["what", "x", "y"])

    def test_highest_bit(self):
        x = [HIGH, 0, TOP, 2147483647, HIGH + 1, 1, 3221225472, 1073741824] + [0] * 7 + [HIGH]
        for y in (ZEROS, TOPS, STEPS, x):
            self.check(marks, (0, x, y), [0b1000000001010101])

    def test_highest_bit_at_each_place(self):
        for i in range(16):
            x = [TOP - HIGH] * 16
            x[i] = HIGH
            for y in (ZEROS, TOPS, STEPS):
                self.check(marks, (0, x, y), [2**i])

    def test_y_does_not_count_for_what_0(self):
        for y in (ZEROS, TOPS, [HIGH] * 16):
            self.check(marks, (0, ZEROS, y), [0])
            self.check(marks, (0, TOPS, y), [65535])

    def test_bit_in_common(self):
        x = [1, 2, 3, 0, TOP, 0xF0, 0xF0, HIGH, HIGH, 6, 5, 0, 0x00FF00FF, 0x00FF00FF, 1, 1]
        y = [1, 1, 2, 0, 4, 0x0F, 0x1F, HIGH, HIGH - 1, 9, 12, TOP, 0xFF00FF00, 0xFF01FF00, TOP - 1, TOP]
        told = [1, 0, 1, 0, 1, 0, 1, 1, 0, 0, 1, 0, 0, 1, 0, 1]
        self.check(marks, (1, x, y), mask_of(told))
        self.check(marks, (2, x, y), mask_of([1 - one for one in told]))
        self.check(marks, (1, y, x), mask_of(told))
        self.check(marks, (2, y, x), mask_of([1 - one for one in told]))

    def test_lowest_and_highest_bit_of_the_answer(self):
        x = [4] + [8] * 14 + [16]
        self.check(marks, (1, x, [4] * 15 + [0]), [1])
        self.check(marks, (1, x, [0] * 15 + [16]), [32768])
        self.check(marks, (2, x, [0] + [8] * 14 + [16]), [1])
        self.check(marks, (2, x, [4] + [8] * 14 + [0]), [32768])
        self.check(marks, (0, [HIGH] + [0] * 15, TOPS), [1])
        self.check(marks, (0, [0] * 15 + [HIGH], TOPS), [32768])

    def test_each_bit_in_common_at_each_place(self):
        for place in range(32):
            for i in range(16):
                x = [2**place] * 16
                y = [TOP - 2**place] * 16
                y[i] = 2**place
                self.check(marks, (1, x, y), [2**i])
                self.check(marks, (2, x, y), [65535 - 2**i])

    def test_all_0_and_all_ones(self):
        for x, y in ((ZEROS, ZEROS), (ZEROS, TOPS), (TOPS, ZEROS), (ZEROS, STEPS), (STEPS, ZEROS)):
            self.check(marks, (1, x, y), [0])
            self.check(marks, (2, x, y), [65535])
        for x, y in ((TOPS, TOPS), (TOPS, STEPS), (STEPS, TOPS)):
            self.check(marks, (1, x, y), [65535])
            self.check(marks, (2, x, y), [0])

    def test_words_at_other_places_do_not_count(self):
        x = [2**i for i in range(16)]
        self.check(marks, (1, x, x[1:] + x[:1]), [0])
        self.check(marks, (2, x, x[1:] + x[:1]), [65535])
        self.check(marks, (1, x, x), [65535])

    def test_another_what(self):
        for what in OTHER_INTS:
            for x, y in ((TOPS, TOPS), (ZEROS, ZEROS), (TOPS, ZEROS), (STEPS, TOPS)):
                self.check(marks, (what, x, y), [0])

    def test_mixed(self):
        for one, others in zip(mixed_rows(20, 81), mixed_rows(20, 82)):
            # Few bits, so that words with none in common occur too.
            x = [word & (word >> 3) & 0x07070707 for word in one]
            y = [word & 0x13131313 for word in others]
            common = [any(a == b == "1" for a, b in zip(written(x[i], 32), written(y[i], 32))) for i in range(16)]
            self.check(marks, (1, x, y), mask_of(common))
            self.check(marks, (2, x, y), mask_of([not one for one in common]))
            self.check(marks, (0, one, y), mask_of([word >= HIGH for word in one]))


class CountTest(CallTest):
    def test_arguments(self):
        self.check_arguments(count, ["what", "x"])

    def test_named_words(self):
        x = [0, 1, 2, HIGH, TOP, 2147483647, 3, 4] * 2
        self.check(count, (0, x), [32, 31, 30, 0, 0, 1, 30, 29] * 2)
        self.check(count, (1, x), [0, 1, 1, 1, 32, 31, 2, 1] * 2)
        self.check(count, (2, x), [32, 0, 1, 31, 0, 0, 0, 2] * 2)

    def test_each_bit_alone(self):
        for start in (0, 16):
            places = list(range(start, start + 16))
            x = [2**place for place in places]
            self.check(count, (0, x), [31 - place for place in places])
            self.check(count, (1, x), [1] * 16)
            self.check(count, (2, x), places)

    def test_bits_below_and_above_each_bit(self):
        for start in (0, 16):
            places = list(range(start, start + 16))
            below = [2 ** (place + 1) - 1 for place in places]
            self.check(count, (0, below), [31 - place for place in places])
            self.check(count, (1, below), [place + 1 for place in places])
            self.check(count, (2, below), [0] * 16)
            above = [2**32 - 2**place for place in places]
            self.check(count, (0, above), [0] * 16)
            self.check(count, (1, above), [32 - place for place in places])
            self.check(count, (2, above), places)

    def test_edges_of_numbers(self):
        self.check(count, (0, ZEROS), [32] * 16)
        self.check(count, (1, ZEROS), ZEROS)
        self.check(count, (2, ZEROS), [32] * 16)
        self.check(count, (0, TOPS), ZEROS)
        self.check(count, (1, TOPS), [32] * 16)
        self.check(count, (2, TOPS), ZEROS)

    def test_another_what(self):
        for what in OTHER_INTS:
            for x in [STEPS, ZEROS, TOPS] + mixed_rows(1, 83):
                self.check(count, (what, x), x)

    def test_mixed(self):
        for row in mixed_rows(20, 84):
            # Also words of every length, cut off above or below.
            shorter = [word >> (2 * i) for i, word in enumerate(row)]
            later = [word & ~(4**i - 1) for i, word in enumerate(row)]
            for x in (row, shorter, later):
                signs = [written(word, 32) for word in x]
                self.check(count, (0, x), [31 - sign.rfind("1") for sign in signs])
                self.check(count, (1, x), [sign.count("1") for sign in signs])
                self.check(count, (2, x), [(sign + "1").find("1") for sign in signs])


if __name__ == "__main__":
    unittest.main()
