"""Points 10 and 11: filter_words, group and meet."""

import unittest

from calls import TOP, CallTest
from lists import TOO_MANY, mixed_words
from sixteenwordsdesk.rows import filter_words, group, meet


class FilterWordsTest(CallTest):
    def check_kept(self, lo, hi, words, kept):
        self.check(filter_words, (len(words), lo, hi, words), [len(kept)] + kept)

    def test_arguments(self):
        self.check_arguments(filter_words, ["n", "lo", "hi", "words"])

    def test_some(self):
        self.check(filter_words, (6, 3, 7, [9, 3, 5, 2, 7, 8]), [3, 3, 5, 7])

    def test_order_is_kept(self):
        self.check_kept(2, 8, [8, 1, 5, 9, 2, 7, 0], [8, 5, 2, 7])

    def test_no_words(self):
        for lo, hi in ((0, 0), (0, TOP), (TOP, 0), (5, 7)):
            self.check(filter_words, (0, lo, hi, []), [0])

    def test_one_word(self):
        self.check_kept(5, 5, [5], [5])
        self.check_kept(0, TOP, [5], [5])
        self.check_kept(6, TOP, [5], [])
        self.check_kept(0, 4, [5], [])

    def test_words_equal_to_lo_and_hi(self):
        self.check_kept(10, 20, [9, 10, 11, 19, 20, 21], [10, 11, 19, 20])

    def test_lo_equal_to_hi(self):
        self.check_kept(7, 7, [6, 7, 8, 7, 0, TOP], [7, 7])
        self.check_kept(0, 0, [0, 1, TOP, 0], [0, 0])
        self.check_kept(TOP, TOP, [0, TOP - 1, TOP], [TOP])

    def test_lo_above_hi(self):
        words = [0, 1, 6, 7, 8, TOP - 1, TOP]
        for lo, hi in ((8, 7), (7, 6), (1, 0), (TOP, 0), (TOP, TOP - 1)):
            self.check_kept(lo, hi, words, [])

    def test_all(self):
        for words in ([0, TOP, 5, 0, TOP], mixed_words(500, 111)):
            self.check_kept(0, TOP, words, words)

    def test_the_same_word_several_times(self):
        self.check_kept(4, 6, [5, 5, 3, 5, 7, 5], [5, 5, 5, 5])
        self.check_kept(4, 6, [5] * 500, [5] * 500)
        self.check_kept(6, 9, [5] * 500, [])

    def test_edges_of_numbers(self):
        words = [0, 1, 2147483647, 2147483648, TOP - 1, TOP]
        self.check_kept(1, TOP, words, words[1:])
        self.check_kept(0, TOP - 1, words, words[:-1])
        self.check_kept(2147483648, TOP, words, words[3:])
        self.check_kept(0, 2147483647, words, words[:3])

    def test_500_words(self):
        self.check_kept(100, 102, list(range(500)), [100, 101, 102])
        self.check_kept(499, 600, list(range(500)), [499])
        self.check_kept(0, 0, list(range(500)), [0])

    def test_most_words(self):
        self.check_kept(65534, TOP, list(range(65536)), [65534, 65535])

    def test_too_many(self):
        for n in TOO_MANY:
            for lo, hi in ((0, TOP), (5, 5), (TOP, 0)):
                self.check(filter_words, (n, lo, hi, []), [-1])

    def test_mixed(self):
        bounds = mixed_words(40, 112)
        for i in range(20):
            lo, hi = bounds[2 * i], bounds[2 * i + 1]
            words = mixed_words(25 * i, 113 + i)
            kept = list(words)
            for word in words:
                if word < lo or word > hi:
                    kept.remove(word)
            self.check_kept(lo, hi, words, kept)


class GroupTest(CallTest):
    def check_group(self, sums, keys, values, expected):
        self.check(group, (len(keys), len(sums), sums, keys, values), expected)

    def test_arguments(self):
        self.check_arguments(group, ["n", "groups", "sums", "keys", "values"])

    def test_some(self):
        self.check(group, (4, 3, [10, 20, 30], [2, 0, 2, 1], [1, 2, 3, 4]), [0, 12, 24, 34])

    def test_no_keys(self):
        self.check(group, (0, 1, [7], [], []), [0, 7])
        self.check(group, (0, 3, [0, TOP, 5], [], []), [0, 0, TOP, 5])
        words = mixed_words(500, 121)
        self.check(group, (0, 500, words, [], []), [0] + words)

    def test_one_group(self):
        self.check_group([5], [0], [6], [0, 11])
        self.check_group([5], [1], [6], [1, 5])
        self.check_group([5], [0, 1, 0, TOP], [1, 10, 100, 1000], [2, 106])
        self.check_group([5], [0] * 500, [2] * 500, [0, 1005])

    def test_500_groups(self):
        self.check_group([1] * 500, list(range(500)), list(range(500)), [0] + list(range(1, 501)))
        self.check_group([0] * 500, [499 - i for i in range(500)], list(range(500)), [0] + list(range(499, -1, -1)))
        self.check_group([0] * 500, [499, 500, 0], [3, 4, 5], [1, 5] + [0] * 498 + [3])

    def test_keys_below_equal_to_and_above_groups(self):
        self.check_group([0, 0, 0], [2, 3, 4, TOP], [1, 10, 100, 1000], [3, 0, 0, 1])
        self.check_group([0, 0, 0], [0, 2, 3, 65536, 2147483648, TOP, 1], [1, 2, 4, 8, 16, 32, 64], [4, 1, 64, 2])

    def test_keys_equal_to_a_group_modulo_a_power_of_two(self):
        self.check_group([0, 0], [2, 4, 256, 257, 65536, 65537, TOP, TOP - 1], [9] * 8, [8, 0, 0])

    def test_the_same_key_several_times(self):
        self.check_group([1, 2, 3], [1, 1, 1, 1], [10, 20, 30, 40], [0, 1, 102, 3])
        self.check_group([1, 2, 3], [1, 7, 1, 7, 1], [10, 20, 30, 40, 50], [2, 1, 92, 3])

    def test_sums_over_the_top(self):
        self.check_group([TOP - 1], [0], [1], [0, TOP])
        self.check_group([TOP], [0], [1], [0, 0])
        self.check_group([TOP], [0], [TOP], [0, TOP - 1])
        self.check_group([0], [0, 0], [TOP, 2], [0, 1])
        self.check_group([TOP, TOP, TOP], [1, 1, 1], [TOP, TOP, TOP], [0, TOP, TOP - 3, TOP])
        self.check_group([TOP], [0] * 500, [TOP] * 500, [0, TOP - 500])

    def test_a_sum_over_the_top_stays_in_its_group(self):
        self.check_group([5, TOP, 6], [1], [1], [0, 5, 0, 6])

    def test_all_keys_too_great(self):
        self.check_group([4, 5], [2, 3, TOP], [1, 1, 1], [3, 4, 5])
        self.check_group([4, 5], [2] * 500, [TOP] * 500, [500, 4, 5])
        self.check_group(list(range(500)), [500] * 500, [TOP] * 500, [500] + list(range(500)))

    def test_edges_of_numbers(self):
        self.check_group([0, TOP], [0, 1], [0, 0], [0, 0, TOP])
        self.check_group([0, TOP], [0, 1], [TOP, TOP], [0, TOP, TOP - 1])

    def test_one_list_as_all(self):
        words = [1, 2, 0, 5]
        self.check(group, (4, 4, words, words, words), [1, 1, 3, 2, 5])

    def test_most_keys_and_groups(self):
        self.check_group([0], [0] * 65536, [1] * 65536, [0, 65536])
        self.check_group([0] * 65536, [65535, 65536], [7, 8], [1] + [0] * 65535 + [7])

    def test_n_too_great(self):
        for n in TOO_MANY:
            for groups in [0, 1, 500, 65536] + TOO_MANY:
                self.check(group, (n, groups, [], [], []), [-1])

    def test_groups_out_of_range(self):
        for groups in [0] + TOO_MANY:
            for n in [0, 1, 500, 65536] + TOO_MANY:
                self.check(group, (n, groups, [], [], []), [-1])

    def test_mixed(self):
        for i in range(1, 21):
            sums = mixed_words(11 * i, 130 + i)
            values = mixed_words(25 * i, 160 + i)
            keys = [word % (12 * i) for word in mixed_words(25 * i, 190 + i)]
            strays = sum(1 for key in keys if key >= 11 * i)
            by_key = [sum(value for key, value in zip(keys, values) if key == place) for place in range(11 * i)]
            totals = [(start + more) % 2**32 for start, more in zip(sums, by_key)]
            self.check_group(sums, keys, values, [strays] + totals)


class MeetTest(CallTest):
    def check_meet(self, a, b, expected):
        self.check(meet, (len(a), len(b), a, b), expected)
        self.check(meet, (len(b), len(a), b, a), expected)

    def test_arguments(self):
        self.check_arguments(meet, ["n", "k", "a", "b"])

    def test_some_in_common(self):
        self.check_meet([1, 3, 5, 7], [2, 3, 4, 7, 9], [2, 3, 7])
        self.check_meet([1, 2, 3], [3, 4, 5], [1, 3])
        self.check_meet([1, 2, 3], [0, 1], [1, 1])

    def test_nothing_in_common(self):
        self.check_meet([1, 3, 5], [2, 4, 6], [0])
        self.check_meet([1, 2, 3], [4, 5, 6], [0])
        self.check_meet([2 * i for i in range(500)], [2 * i + 1 for i in range(500)], [0])

    def test_all_in_common(self):
        self.check_meet([1, 3, 5], [1, 3, 5], [3, 1, 3, 5])
        self.check_meet([1, 3, 5], [0, 1, 2, 3, 4, 5, 6], [3, 1, 3, 5])
        self.check_meet(list(range(500)), list(range(500)), [500] + list(range(500)))

    def test_empty(self):
        self.check_meet([], [], [0])
        self.check_meet([], [0], [0])
        self.check_meet([], [TOP], [0])
        self.check_meet([], list(range(500)), [0])

    def test_one_word(self):
        self.check_meet([5], [5], [1, 5])
        self.check_meet([5], [6], [0])
        self.check_meet([0], list(range(500)), [1, 0])
        self.check_meet([499], list(range(500)), [1, 499])
        self.check_meet([500], list(range(500)), [0])

    def test_500_words(self):
        thirds = [3 * i for i in range(500)]
        fifths = [5 * i for i in range(500)]
        self.check_meet(thirds, fifths, [100] + [15 * i for i in range(100)])

    def test_edges_of_numbers(self):
        self.check_meet([0, TOP], [0, TOP], [2, 0, TOP])
        self.check_meet([0, 5], [5, TOP], [1, 5])
        self.check_meet([0], [TOP], [0])
        self.check_meet([2147483647, 2147483648, TOP], [0, 2147483648, TOP - 1], [1, 2147483648])

    def test_one_list_as_both(self):
        words = [2, 4, 8]
        self.check(meet, (3, 3, words, words), [3, 2, 4, 8])

    def test_two_equal_words(self):
        for broken in ([4, 4], [1, 1, 2, 3], [1, 2, 3, 3], [1, 2, 2, 3], [0, 0], [TOP, TOP], [0, 0, 1], [5, TOP, TOP]):
            for other in ([], [1], [1, 2, 3], [0, TOP], list(range(500))):
                self.check_meet(broken, other, [-2])

    def test_a_word_less_than_the_one_before(self):
        for broken in ([4, 3], [2, 1, 3, 4], [1, 2, 4, 3], [1, 5, 2, 6], [TOP, 0], [1, 0, 2], [0, TOP, TOP - 1]):
            for other in ([], [1], [1, 2, 3], [0, TOP], list(range(500))):
                self.check_meet(broken, other, [-2])

    def test_each_place_of_500(self):
        words = [2 * i for i in range(500)]
        for i in [1, 2, 15, 16, 17, 250, 497, 498, 499]:
            equal = list(words)
            equal[i] = words[i - 1]
            less = list(words)
            less[i] = words[i - 1] - 1
            for broken in (equal, less):
                self.check_meet(broken, words, [-2])
                self.check_meet(broken, [], [-2])

    def test_both_broken(self):
        self.check_meet([2, 1], [1, 1], [-2])

    def test_most_words(self):
        self.check_meet(list(range(65536)), [0, 65535, 65536], [2, 0, 65535])

    def test_too_many(self):
        for n in TOO_MANY:
            for k in [0, 1, 500, 65536] + TOO_MANY:
                self.check(meet, (n, k, [], []), [-1])
                self.check(meet, (k, n, [], []), [-1])

    def test_mixed(self):
        for i in range(1, 21):
            # Small words, so that some are in both.
            a = sorted({word % 700 for word in mixed_words(20 * i, 210 + i)})
            b = sorted({word % 700 for word in mixed_words(13 * i, 240 + i)})
            common = [word for word in range(700) if word in a and word in b]
            self.check_meet(a, b, [len(common)] + common)


if __name__ == "__main__":
    unittest.main()
