"""Point 1: pack and spread."""

import unittest

from calls import STEPS, TOP, TOPS, ZEROS, CallTest, mixed_rows
from sixteenwordsdesk.rows import pack, spread

NEXT = list(range(200, 216))
MASKS = [0, 1, 2, 0x8000, 0x4000, 0x8001, 0x5555, 0xAAAA, 0x0FF0, 0x7FFF, 0xFFFE, 0x1234, 0xFFFF]


def places(m):
    """The places of a mask's bits, read from its written form."""
    return [i for i, sign in enumerate(reversed(format(m, "016b"))) if sign == "1"]


class PackTest(CallTest):
    def test_arguments(self):
        self.check_arguments(pack, ["m", "x"])

    def test_no_word(self):
        self.check(pack, (0, STEPS), [0])

    def test_all_words(self):
        self.check(pack, (65535, STEPS), [16] + STEPS)

    def test_one_bit_alone(self):
        for i in range(16):
            self.check(pack, (2**i, STEPS), [1, 100 + i])

    def test_lowest_and_highest_bit(self):
        self.check(pack, (1 + 32768, STEPS), [2, 100, 115])

    def test_some_in_between(self):
        self.check(pack, (0b0000100101100100, STEPS), [5, 102, 105, 106, 108, 111])

    def test_order_is_by_place_not_by_size(self):
        self.check(pack, (0b1011, [9, 7, 5, 3] + [0] * 12), [3, 9, 7, 3])

    def test_equal_words_are_each_packed(self):
        self.check(pack, (0b111, [4] * 16), [3, 4, 4, 4])

    def test_edges_of_numbers(self):
        self.check(pack, (65535, ZEROS), [16] + ZEROS)
        self.check(pack, (65535, TOPS), [16] + TOPS)
        self.check(pack, (0x8001, [TOP] + [1] * 14 + [0]), [2, TOP, 0])

    def test_mixed(self):
        for x in mixed_rows(4, 1):
            for m in MASKS:
                self.check(pack, (m, x), [len(places(m))] + [x[i] for i in places(m)])


class SpreadTest(CallTest):
    def test_arguments(self):
        self.check_arguments(spread, ["m", "next_words", "y"])

    def test_no_word(self):
        self.check(spread, (0, NEXT, STEPS), STEPS)

    def test_all_words(self):
        self.check(spread, (65535, NEXT, STEPS), NEXT)

    def test_one_bit_alone_takes_the_first(self):
        for i in range(16):
            expected = list(STEPS)
            expected[i] = 200
            self.check(spread, (2**i, NEXT, STEPS), expected)

    def test_gaps_take_the_next_not_the_one_at_the_same_place(self):
        expected = [100, 101, 200, 103, 104, 201, 202, 107, 203, 109, 110, 204, 112, 113, 114, 205]
        self.check(spread, (0b1000100101100100, NEXT, STEPS), expected)

    def test_lowest_and_highest_bit(self):
        self.check(spread, (0x8001, NEXT, STEPS), [200] + STEPS[1:15] + [201])

    def test_edges_of_numbers(self):
        self.check(spread, (0x5555, TOPS, ZEROS), [TOP, 0] * 8)
        self.check(spread, (0x5555, ZEROS, TOPS), [0, TOP] * 8)

    def test_same_list_twice(self):
        self.check(spread, (0x8000, STEPS, STEPS), STEPS[:15] + [100])

    def test_mixed(self):
        for next_words, y in zip(mixed_rows(4, 2), mixed_rows(4, 3)):
            for m in MASKS:
                expected = list(y)
                for taken, i in enumerate(places(m)):
                    expected[i] = next_words[taken]
                self.check(spread, (m, next_words, y), expected)

    def test_spread_undoes_pack(self):
        for x in mixed_rows(4, 4):
            for m in MASKS:
                packed = pack(m, x)[1:]
                self.check(spread, (m, packed + [0] * (16 - len(packed)), x), x)


if __name__ == "__main__":
    unittest.main()
