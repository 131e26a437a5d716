"""Point 6: pick, slide and fourths."""

import itertools
import unittest

from calls import STEPS, TOP, TOPS, ZEROS, CallTest, mixed_rows
from sixteenwordsdesk.rows import fourths, pick, slide

OTHERS = list(range(300, 316))
ALL = STEPS + OTHERS


class PickTest(CallTest):
    def test_arguments(self):
        self.check_arguments(pick, ["x", "which", "y"])

    def test_places_0_to_15_are_those_of_x(self):
        self.check(pick, (STEPS, list(range(16)), OTHERS), STEPS)

    def test_places_16_to_31_are_those_of_y(self):
        self.check(pick, (STEPS, list(range(16, 32)), OTHERS), OTHERS)

    def test_edges_of_which(self):
        which = [0, 15, 16, 31, 32, 63, TOP, 47, 48, 33, 64, 2**31, 2**31 + 15, TOP - 31, TOP - 15, TOP - 16]
        expected = [100, 115, 300, 315, 100, 315, 315, 115, 300, 101, 100, 100, 115, 100, 300, 115]
        self.check(pick, (STEPS, which, OTHERS), expected)

    def test_each_number_at_each_place(self):
        for number in range(32):
            self.check(pick, (STEPS, [number] * 16, OTHERS), [ALL[number]] * 16)
            which = [(number + i) % 32 for i in range(16)]
            self.check(pick, (STEPS, which, OTHERS), [ALL[k] for k in which])

    def test_same_word_several_times(self):
        which = [3, 3, 20, 3, 20, 20, 35, 52, 0, 0, 0, 31, 31, 16, 16, 3]
        expected = [103, 103, 304, 103, 304, 304, 103, 304, 100, 100, 100, 315, 315, 300, 300, 103]
        self.check(pick, (STEPS, which, OTHERS), expected)

    def test_edges_of_numbers(self):
        which = [0, 16] * 8
        self.check(pick, (ZEROS, which, TOPS), [0, TOP] * 8)
        self.check(pick, (TOPS, which, ZEROS), [TOP, 0] * 8)
        self.check(pick, (STEPS, ZEROS, OTHERS), [100] * 16)
        self.check(pick, (STEPS, TOPS, OTHERS), [315] * 16)

    def test_one_list_as_all(self):
        x = [5, 40, 0, 17, 31, 32, TOP, 16, 15, 2, 3, 8, 9, 64, 63, 1]
        self.check(pick, (x, x, x), [x[number % 16] for number in x])

    def test_mixed(self):
        for x, which, y in zip(mixed_rows(10, 61), mixed_rows(10, 62), mixed_rows(10, 63)):
            expected = []
            for number in which:
                low = int(format(number, "032b")[-5:], 2)
                expected.append(x[low] if low < 16 else y[low - 16])
            self.check(pick, (x, which, y), expected)


class SlideTest(CallTest):
    def test_arguments(self):
        self.check_arguments(slide, ["n", "x", "y"])

    def test_x_itself(self):
        for n in (0, 16, 32, 48, 65536, 2**31, TOP - 15):
            self.check(slide, (n, STEPS, OTHERS), STEPS)

    def test_by_1(self):
        for n in (1, 17, 33, 2**31 + 1, TOP - 14):
            self.check(slide, (n, STEPS, OTHERS), STEPS[1:] + [300])

    def test_by_15(self):
        for n in (15, 31, 47, 2**31 - 1, TOP):
            self.check(slide, (n, STEPS, OTHERS), [115] + OTHERS[:15])

    def test_each_amount(self):
        for n in range(40):
            low = n - 16 * (n >= 16) - 16 * (n >= 32)
            expected = [ALL[low + i] for i in range(16)]
            self.check(slide, (n, STEPS, OTHERS), expected)

    def test_edges_of_numbers(self):
        self.check(slide, (4, ZEROS, TOPS), [0] * 12 + [TOP] * 4)
        self.check(slide, (4, TOPS, ZEROS), [TOP] * 12 + [0] * 4)
        self.check(slide, (TOP, TOPS, ZEROS), [TOP] + [0] * 15)

    def test_one_list_as_both(self):
        for n in (0, 5, 16, TOP):
            self.check(slide, (n, STEPS, STEPS), (STEPS + STEPS)[n % 16 :][:16])

    def test_mixed(self):
        for x, y in zip(mixed_rows(3, 64), mixed_rows(3, 65)):
            for n in x:
                low = int(format(n, "032b")[-4:], 2)
                self.check(slide, (n, x, y), x[low:] + y[:low])


class FourthsTest(CallTest):
    def test_arguments(self):
        self.check_arguments(fourths, ["how", "x", "y"])

    def test_how_0(self):
        expected = [100, 101, 102, 103] * 2 + [300, 301, 302, 303] * 2
        self.check(fourths, (0, STEPS, OTHERS), expected)

    def test_how_255(self):
        expected = [112, 113, 114, 115] * 2 + [312, 313, 314, 315] * 2
        self.check(fourths, (255, STEPS, OTHERS), expected)

    def test_lowest_bits_tell_the_first(self):
        # 228 is 3 2 1 0 by two bits each, the highest first; 27 is 0 1 2 3.
        self.check(fourths, (228, STEPS, OTHERS), STEPS[:8] + OTHERS[8:])
        expected = STEPS[12:] + STEPS[8:12] + OTHERS[4:8] + OTHERS[:4]
        self.check(fourths, (27, STEPS, OTHERS), expected)

    def test_each_fourth_at_each_place(self):
        for place in range(4):
            for number in range(4):
                expected = STEPS[:4] * 2 + OTHERS[:4] * 2
                source = STEPS if place < 2 else OTHERS
                expected[4 * place : 4 * place + 4] = source[4 * number : 4 * number + 4]
                self.check(fourths, (number * 4**place, STEPS, OTHERS), expected)

    def test_every_how(self):
        x_fourths = [STEPS[k : k + 4] for k in (0, 4, 8, 12)]
        y_fourths = [OTHERS[k : k + 4] for k in (0, 4, 8, 12)]
        told = itertools.product(y_fourths, y_fourths, x_fourths, x_fourths)
        for how, (last, third, second, foremost) in enumerate(told):
            self.check(fourths, (how, STEPS, OTHERS), foremost + second + third + last)

    def test_what_stands_above_eight_bits_does_not_count(self):
        for above in (256, 512, 1024, 65536, 2**31, TOP - 255):
            for low in (0, 27, 114, 228, 255):
                self.check(fourths, (above + low, STEPS, OTHERS), fourths(low, STEPS, OTHERS))
        self.check(fourths, (TOP, STEPS, OTHERS), STEPS[12:] * 2 + OTHERS[12:] * 2)
        self.check(fourths, (256, STEPS, OTHERS), STEPS[:4] * 2 + OTHERS[:4] * 2)

    def test_edges_of_numbers(self):
        for how in (0, 27, 255, TOP):
            self.check(fourths, (how, ZEROS, TOPS), [0] * 8 + [TOP] * 8)
            self.check(fourths, (how, TOPS, ZEROS), [TOP] * 8 + [0] * 8)

    def test_one_list_as_both(self):
        self.check(fourths, (228, STEPS, STEPS), STEPS)
        self.check(fourths, (27, STEPS, STEPS), STEPS[12:] + STEPS[8:12] + STEPS[4:8] + STEPS[:4])


if __name__ == "__main__":
    unittest.main()
