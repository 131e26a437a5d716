"""Point 2: first and both."""

import unittest

from calls import STEPS, TOP, TOPS, ZEROS, CallTest, mixed_rows
from sixteenwordsdesk.rows import both, first

OTHERS = list(range(300, 316))


class FirstTest(CallTest):
    def test_arguments(self):
        self.check_arguments(first, ["x"])

    def test_all_equal(self):
        expected = [0, 1, 3, 7, 15, 31, 63, 127, 255, 511, 1023, 2047, 4095, 8191, 16383, 32767]
        self.check(first, ([7] * 16,), expected)

    def test_all_different(self):
        self.check(first, (STEPS,), ZEROS)

    def test_groups(self):
        x = [5, 6, 5, 7, 6, 5, 8, 9, 9, 7, 5, 10, 11, 6, 12, 9]
        expected = [0, 0, 1, 0, 2, 1 + 4, 0, 0, 128, 8, 1 + 4 + 32, 0, 0, 2 + 16, 0, 128 + 256]
        self.check(first, (x,), expected)

    def test_equal_at_places_0_and_15(self):
        self.check(first, (STEPS[:15] + [100],), [0] * 15 + [1])

    def test_equal_at_places_14_and_15(self):
        self.check(first, (STEPS[:15] + [114],), [0] * 15 + [16384])

    def test_sixteen_words(self):
        self.assertEqual(len(first(STEPS)), 16)

    def test_edges_of_numbers(self):
        self.check(first, (ZEROS,), [2**i - 1 for i in range(16)])
        self.check(first, (TOPS,), [2**i - 1 for i in range(16)])
        self.check(first, ([0, TOP, TOP, 0, TOP - 1, 1] + STEPS[6:],), [0, 0, 2, 1] + [0] * 12)

    def test_mixed_with_few_kinds_of_words(self):
        for row in mixed_rows(20, 5):
            x = [word % 5 for word in row]
            expected = [sum(2**j for j in range(i) if x[j] == x[i]) for i in range(16)]
            self.check(first, (x,), expected)


class BothTest(CallTest):
    def test_arguments(self):
        self.check_arguments(both, ["x", "y"])

    def test_none_in_common(self):
        self.check(both, (STEPS, OTHERS), [0])

    def test_equal_rows(self):
        self.check(both, (STEPS, list(STEPS)), [TOP])
        self.check(both, (STEPS, STEPS), [TOP])

    def test_one_common_word_at_the_edges(self):
        for i in (0, 15):
            for j in (0, 15):
                y = list(OTHERS)
                y[j] = STEPS[i]
                self.check(both, (STEPS, y), [2**i + 2 ** (16 + j)])

    def test_word_several_times_in_x(self):
        x = list(STEPS)
        x[3] = x[8] = x[15] = 301
        self.check(both, (x, OTHERS), [2**3 + 2**8 + 2**15 + 2**17])

    def test_word_several_times_in_y(self):
        y = list(OTHERS)
        y[0] = y[7] = y[12] = 105
        self.check(both, (STEPS, y), [2**5 + 2**16 + 2**23 + 2**28])

    def test_words_several_times_on_both_sides(self):
        x = [1, 1, 2, 2] + STEPS[4:]
        y = OTHERS[:10] + [2, 2, 2, 1, 311, 1]
        self.check(both, (x, y), [0b1111 + 2**26 + 2**27 + 2**28 + 2**29 + 2**31])

    def test_equal_words_within_one_side_alone_do_not_count(self):
        self.check(both, ([1] * 16, [2] * 16), [0])

    def test_all_of_one_side_alone(self):
        self.check(both, ([300] * 16, OTHERS), [0xFFFF + 2**16])
        self.check(both, (OTHERS, [315] * 16), [2**15 + 0xFFFF0000])

    def test_edges_of_numbers(self):
        self.check(both, (ZEROS, TOPS), [0])
        self.check(both, (ZEROS, ZEROS), [TOP])
        self.check(both, (TOPS, TOPS), [TOP])
        self.check(both, ([0] + STEPS[1:15] + [TOP], [TOP] + OTHERS[1:15] + [0]), [0x80018001])

    def test_mixed_with_few_kinds_of_words(self):
        for one, other in zip(mixed_rows(20, 6), mixed_rows(20, 7)):
            x = [word % 40 for word in one]
            y = [word % 40 for word in other]
            expected = 0
            for i in range(16):
                for j in range(16):
                    if x[i] == y[j]:
                        expected |= 2**i | 2 ** (16 + j)
            self.check(both, (x, y), [expected])


if __name__ == "__main__":
    unittest.main()
