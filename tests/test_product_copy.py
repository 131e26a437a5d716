"""Points 10 and 13: product and copy."""

import unittest

from calls import CallTest
from lists import TOO_MANY, mixed_words
from sixteenwordsdesk.rows import copy, product

D = 4503599627370496
TOP_LONG = 18446744073709551615
WRONG_DIGITS = [D, D + 1, 2 * D - 1, 2 * D, 2**53 + 1, 2**63, TOP_LONG - 1, TOP_LONG]


def whole(digits):
    return int("0" + "".join(format(digit, "013x") for digit in reversed(digits)), 16)


def cut(number, count):
    """The lowest digits of a number, 13 signs of base 16 each."""
    signs = format(number, f"0{13 * count}x")
    return [int(signs[13 * i : 13 * i + 13], 16) for i in range(count)][::-1]


def mixed_digits(count, seed):
    words = mixed_words(2 * count, seed)
    return [words[2 * i] * 2**20 + words[2 * i + 1] % 2**20 for i in range(count)]


class ProductTest(CallTest):
    def check_product(self, a, b):
        n = len(a)
        self.check(product, (n, a, b), [0] + cut(whole(a) * whole(b), 2 * n))

    def test_arguments(self):
        self.check_arguments(product, ["n", "a", "b"])

    def test_no_digits(self):
        self.check(product, (0, [], []), [0])

    def test_one_digit(self):
        self.check(product, (1, [6], [7]), [0, 42, 0])
        self.check(product, (1, [0], [0]), [0, 0, 0])
        self.check(product, (1, [0], [D - 1]), [0, 0, 0])
        self.check(product, (1, [1], [D - 1]), [0, D - 1, 0])
        self.check(product, (1, [2], [D - 1]), [0, D - 2, 1])
        self.check(product, (1, [D // 2], [2]), [0, 0, 1])
        self.check(product, (1, [D - 1], [D - 1]), [0, 1, D - 2])

    def test_two_digits(self):
        self.check(product, (2, [2, 3], [5, 7]), [0, 10, 29, 21, 0])
        self.check(product, (2, [0, 1], [0, 1]), [0, 0, 0, 1, 0])
        self.check(product, (2, [1, 0], [3, 4]), [0, 3, 4, 0, 0])
        self.check(product, (2, [D - 1, 0], [D - 1, 0]), [0, 1, D - 2, 0, 0])
        self.check(product, (2, [D - 1, D - 1], [D - 1, D - 1]), [0, 1, 0, D - 2, D - 1])
        self.check(product, (2, [D - 1, D - 1], [1, 0]), [0, D - 1, D - 1, 0, 0])
        self.check(product, (2, [D - 1, D - 1], [2, 0]), [0, D - 2, D - 1, 1, 0])

    def test_lowest_digit_first(self):
        self.check(product, (3, [5, 0, 0], [0, 0, 7]), [0, 0, 0, 35, 0, 0, 0])
        self.check(product, (3, [0, 0, 5], [0, 0, 7]), [0, 0, 0, 0, 0, 35, 0])

    def test_all_digits_the_greatest(self):
        # (D^n - 1) (D^n - 1) is D^2n - 2 D^n + 1.
        for n in [1, 2, 3, 16, 63, 64]:
            tops = [D - 1] * n
            self.check(product, (n, tops, tops), [0, 1] + [0] * (n - 1) + [D - 2] + [D - 1] * (n - 1))
            self.check(product, (n, tops, list(tops)), [0, 1] + [0] * (n - 1) + [D - 2] + [D - 1] * (n - 1))

    def test_times_0_and_1(self):
        for n in (1, 2, 63, 64):
            zeros = [0] * n
            one = [1] + [0] * (n - 1)
            for digits in (zeros, one, [D - 1] * n, mixed_digits(n, 410 + n)):
                self.check(product, (n, digits, zeros), [0] * (2 * n + 1))
                self.check(product, (n, zeros, digits), [0] * (2 * n + 1))
                self.check(product, (n, digits, one), [0] + digits + zeros)
                self.check(product, (n, one, digits), [0] + digits + zeros)

    def test_all_digits_1(self):
        for n in (2, 63, 64):
            expected = [min(i + 1, 2 * n - 1 - i) for i in range(2 * n)]
            self.check(product, (n, [1] * n, [1] * n), [0] + expected)

    def test_a_carry_goes_through_all_digits(self):
        for n in (2, 63, 64):
            rest = [0] * (n - 1)
            self.check(product, (n, [D - 1] * n, [2] + rest), [0, D - 2] + [D - 1] * (n - 1) + [1] + rest)

    def test_one_digit_at_each_place(self):
        for i in range(0, 64, 7):
            for j in range(0, 64, 9):
                a = [0] * 64
                b = [0] * 64
                a[i] = D - 1
                b[j] = D - 1
                expected = [0] * 128
                expected[i + j] = 1
                expected[i + j + 1] = D - 2
                self.check(product, (64, a, b), [0] + expected)

    def test_a_wrong_digit(self):
        for wrong in WRONG_DIGITS:
            for n in (1, 2, 63, 64):
                fine = [1] * n
                first = [wrong] + [1] * (n - 1)
                last = [1] * (n - 1) + [wrong]
                for broken in (first, last, [wrong] * n):
                    self.check(product, (n, broken, fine), [-2])
                    self.check(product, (n, fine, broken), [-2])
                    self.check(product, (n, broken, broken), [-2])

    def test_a_wrong_digit_at_each_place(self):
        for i in range(64):
            broken = [D - 1] * 64
            broken[i] = D
            self.check(product, (64, broken, [0] * 64), [-2])
            self.check(product, (64, [0] * 64, broken), [-2])

    def test_too_many(self):
        for n in [65, 66, 127, 128, 256, 320, 500, 65536] + TOO_MANY:
            self.check(product, (n, [], []), [-1])

    def test_mixed(self):
        for n in list(range(1, 20)) + [31, 32, 33, 62, 63, 64]:
            a = mixed_digits(n, 430 + n)
            b = mixed_digits(n, 530 + n)
            self.check_product(a, b)
            self.check_product(b, a)
            self.check_product(a, [digit >> 26 for digit in b])
            self.check_product(a, a)


class CopyTest(CallTest):
    def test_arguments(self):
        self.check_arguments(copy, ["n", "octets"])

    def test_no_bytes(self):
        self.check(copy, (0, []), [0])

    def test_bytes(self):
        for n in range(64, 1985, 64):
            self.check(copy, (n, [0] * n), [0] + [0] * n)
            self.check(copy, (n, [255] * n), [0] + [255] * n)
            octets = [word % 256 for word in mixed_words(n, 600 + n)]
            self.check(copy, (n, octets), [0] + octets)

    def test_order_is_kept(self):
        self.check(copy, (64, list(range(64))), [0] + list(range(64)))
        self.check(copy, (256, list(range(255, -1, -1))), [0] + list(range(255, -1, -1)))

    def test_first_and_last_byte(self):
        self.check(copy, (64, [255] + [0] * 62 + [1]), [0, 255] + [0] * 62 + [1])
        self.check(copy, (1984, [1] + [0] * 1982 + [255]), [0, 1] + [0] * 1982 + [255])

    def test_no_multiple_of_64(self):
        for n in range(2001):
            if n % 64:
                self.check(copy, (n, []), [-1])
        for n in (65535, 65537, 4194303, 4194305, 2147483647, 4294967295):
            self.check(copy, (n, []), [-1])

    def test_too_many(self):
        for n in (4194305, 4194368, 4194432, 8388608, 2147483648, 4294967232):
            self.check(copy, (n, []), [-1])

    def test_most_bytes(self):
        octets = [7] * 4194304
        self.assertEqual(copy(4194304, octets), [0] + octets)


if __name__ == "__main__":
    unittest.main()
