"""Points 10 and 12: narrow and widen."""

import unittest

from calls import TOP, CallTest
from lists import TOO_MANY, mixed_words
from sixteenwordsdesk.rows import narrow, widen

WIDTHS = [1, 7, 8, 9, 31, 32]
COUNTS = [1, 2, 3, 7, 8, 9, 16, 499, 500]
WRONG_WIDTHS = [-2147483648, -2147483647, -256, -32, -31, -8, -1, 0, 33, 34, 64, 256, 264, 65544, 2147483647]


def packed(width, words):
    """The bytes of the words' fields, cut from a text of all bits with the first word at its end."""
    signs = "".join(format(word, f"0{width}b") for word in reversed(words))
    octets = []
    while signs:
        octets.append(int(signs[-8:], 2))
        signs = signs[:-8]
    return octets


def fitting(width, count, seed):
    return [word % 2**width for word in mixed_words(count, seed)]


class NarrowTest(CallTest):
    def check_narrow(self, width, words):
        octets = packed(width, words)
        self.assertEqual(len(octets), -(-len(words) * width // 8))
        self.check(narrow, (len(words), width, words), [len(octets)] + octets)

    def test_arguments(self):
        self.check_arguments(narrow, ["n", "width", "words"])

    def test_named(self):
        self.check(narrow, (8, 1, [1, 0, 1, 1, 0, 0, 0, 1]), [1, 0b10001101])
        self.check(narrow, (3, 4, [1, 2, 3]), [2, 0x21, 0x03])
        self.check(narrow, (2, 7, [127, 1]), [2, 0xFF, 0x00])
        self.check(narrow, (2, 9, [0x1AB, 0x0CD]), [3, 0xAB, 0x9B, 0x01])
        self.check(narrow, (3, 8, [1, 2, 255]), [3, 1, 2, 255])
        self.check(narrow, (2, 16, [0x1234, 0xABCD]), [4, 0x34, 0x12, 0xCD, 0xAB])

    def test_width_32(self):
        self.check(narrow, (1, 32, [TOP]), [4, 255, 255, 255, 255])
        self.check(narrow, (2, 32, [0x01020304, TOP]), [8, 4, 3, 2, 1, 255, 255, 255, 255])
        self.check(narrow, (500, 32, [TOP] * 500), [2000] + [255] * 2000)
        self.check(narrow, (500, 32, [0] * 500), [2000] + [0] * 2000)

    def test_no_words(self):
        for width in range(1, 33):
            self.check(narrow, (0, width, []), [0])

    def test_one_word(self):
        for width in range(1, 33):
            for word in (0, 1, 2 ** (width - 1), 2**width - 1):
                self.check_narrow(width, [word])

    def test_words_0(self):
        for width in WIDTHS:
            for n in COUNTS:
                octets = (n * width + 7) // 8
                self.check(narrow, (n, width, [0] * n), [octets] + [0] * octets)

    def test_greatest_words(self):
        # What is over in the last byte is 0 though all other bits are 1.
        for width in WIDTHS:
            for n in COUNTS:
                full, over = divmod(n * width, 8)
                last = [2**over - 1] if over else []
                self.check(narrow, (n, width, [2**width - 1] * n), [full + len(last)] + [255] * full + last)

    def test_over_in_the_last_byte(self):
        self.check(narrow, (1, 1, [1]), [1, 1])
        self.check(narrow, (1, 7, [127]), [1, 127])
        self.check(narrow, (1, 9, [511]), [2, 255, 1])
        self.check(narrow, (1, 31, [2**31 - 1]), [4, 255, 255, 255, 127])
        self.check(narrow, (9, 1, [1] * 9), [2, 255, 1])

    def test_one_bit_at_each_place(self):
        for width in WIDTHS:
            for place in range(9 * width):
                words = [0] * 9
                words[place // width] = 2 ** (place % width)
                expected = [0] * ((9 * width + 7) // 8)
                expected[place // 8] = 2 ** (place % 8)
                self.check(narrow, (9, width, words), [len(expected)] + expected)

    def test_a_word_too_great(self):
        for width in range(1, 32):
            for n in (1, 2, 500):
                for wrong in (2**width, 2**width + 1, 2**31, TOP):
                    words = [1] * n
                    words[0] = wrong
                    self.check(narrow, (n, width, words), [-2])
                    words = [1] * n
                    words[-1] = wrong
                    self.check(narrow, (n, width, words), [-2])

    def test_a_word_too_great_at_each_place(self):
        for i in range(10):
            words = [127] * 10
            words[i] = 128
            self.check(narrow, (10, 7, words), [-2])

    def test_all_words_too_great(self):
        for width in (1, 7, 8, 9, 31):
            self.check(narrow, (500, width, [TOP] * 500), [-2])

    def test_wrong_width(self):
        for width in WRONG_WIDTHS:
            for n in (0, 1, 500, 65536):
                self.check(narrow, (n, width, []), [-1])

    def test_too_many(self):
        for n in TOO_MANY:
            for width in WIDTHS + WRONG_WIDTHS:
                self.check(narrow, (n, width, []), [-1])

    def test_most_words(self):
        self.check(narrow, (65536, 1, [1] * 65536), [8192] + [255] * 8192)

    def test_mixed(self):
        for width in range(1, 33):
            for n in (5, 8, 37, 500):
                self.check_narrow(width, fitting(width, n, 300 + width))


class WidenTest(CallTest):
    def check_widen(self, width, words):
        self.check(widen, (len(words), width, packed(width, words)), [0] + words)

    def test_arguments(self):
        self.check_arguments(widen, ["n", "width", "octets"])

    def test_named(self):
        self.check(widen, (8, 1, [0b10001101]), [0, 1, 0, 1, 1, 0, 0, 0, 1])
        self.check(widen, (3, 4, [0x21, 0x03]), [0, 1, 2, 3])
        self.check(widen, (2, 7, [0xFF, 0x00]), [0, 127, 1])
        self.check(widen, (2, 9, [0xAB, 0x9B, 0x01]), [0, 0x1AB, 0x0CD])
        self.check(widen, (3, 8, [1, 2, 255]), [0, 1, 2, 255])
        self.check(widen, (2, 16, [0x34, 0x12, 0xCD, 0xAB]), [0, 0x1234, 0xABCD])

    def test_width_32(self):
        self.check(widen, (1, 32, [255] * 4), [0, TOP])
        self.check(widen, (2, 32, [4, 3, 2, 1, 0, 0, 0, 128]), [0, 0x01020304, 2147483648])
        self.check(widen, (500, 32, [255] * 2000), [0] + [TOP] * 500)
        self.check(widen, (500, 32, [0] * 2000), [0] + [0] * 500)

    def test_no_words(self):
        for width in range(1, 33):
            self.check(widen, (0, width, []), [0])

    def test_one_word(self):
        for width in range(1, 33):
            for word in (0, 1, 2 ** (width - 1), 2**width - 1):
                self.check_widen(width, [word])

    def test_bits_over_in_the_last_byte(self):
        self.check(widen, (1, 1, [0b11111110]), [0, 0])
        self.check(widen, (1, 1, [255]), [0, 1])
        self.check(widen, (3, 2, [0b11000110]), [0, 2, 1, 0])
        self.check(widen, (1, 7, [128]), [0, 0])
        self.check(widen, (1, 9, [0, 254]), [0, 0])
        self.check(widen, (1, 31, [0, 0, 0, 128]), [0, 0])
        for width in range(1, 33):
            for n in (1, 3, 7, 9, 499, 500):
                octets = [255] * ((n * width + 7) // 8)
                self.check(widen, (n, width, octets), [0] + [2**width - 1] * n)

    def test_bits_over_with_words_0(self):
        for width in range(1, 33):
            for n in (1, 3, 7, 9, 499):
                over = n * width % 8
                octets = [0] * ((n * width + 7) // 8)
                octets[-1] = 256 - 2**over if over else 0
                self.check(widen, (n, width, octets), [0] + [0] * n)

    def test_fields_over_the_ends_of_bytes(self):
        # The second field begins within a byte: it goes over one end, one, two, three and four.
        self.check(widen, (2, 7, [0x80, 0x15]), [0, 0, 0x2B])
        self.check(widen, (2, 9, [0, 0x56, 0x02]), [0, 0, 0x12B])
        self.check(widen, (2, 15, [0, 0x80, 0xFF, 0x2A]), [0, 0, 0x55FF])
        self.check(widen, (2, 25, [0, 0, 0, 0x56, 0x34, 0x12, 0x02]), [0, 0, 0x1091A2B])
        self.check(widen, (2, 31, [0, 0, 0, 0x80, 0x78, 0x56, 0x34, 0x12]), [0, 0, 0x2468ACF1])
        words = [0x12345678, 0x7FFFFFFF, 0, 0x40000001, 0x2468ACE1]
        self.check_widen(31, words)

    def test_one_bit_at_each_place(self):
        for width in WIDTHS:
            for place in range(9 * width):
                words = [0] * 9
                words[place // width] = 2 ** (place % width)
                octets = [0] * ((9 * width + 7) // 8)
                octets[place // 8] = 2 ** (place % 8)
                self.check(widen, (9, width, octets), [0] + words)

    def test_what_narrow_answers(self):
        for width in range(1, 33):
            for n in (0, 1, 8, 37, 500):
                words = fitting(width, n, 340 + width)
                self.check(widen, (n, width, narrow(n, width, words)[1:]), [0] + words)

    def test_wrong_width(self):
        for width in WRONG_WIDTHS:
            for n in (0, 1, 500, 65536):
                self.check(widen, (n, width, []), [-1])

    def test_too_many(self):
        for n in TOO_MANY:
            for width in WIDTHS + WRONG_WIDTHS:
                self.check(widen, (n, width, []), [-1])

    def test_most_words(self):
        self.check(widen, (65536, 1, [255] * 8192), [0] + [1] * 65536)

    def test_mixed(self):
        for width in range(1, 33):
            for n in (5, 8, 37, 500):
                self.check_widen(width, fitting(width, n, 380 + width))


if __name__ == "__main__":
    unittest.main()
