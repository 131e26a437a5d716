"""Point 4: fields and bits."""

import unittest

from calls import STEPS, TOP, TOPS, ZEROS, CallTest, mixed_rows
from longs import bits_of_long, bytes_of_row, long_of_bits, row_of_bytes, row_of_longs
from sixteenwordsdesk.rows import bits, fields

A = 0x0123456789ABCDEF
TOP_LONG = 2**64 - 1


def expected_fields(x, octets):
    answer = []
    for k, octet in enumerate(octets):
        twice = bits_of_long(x, k // 8) * 2
        answer.append(long_of_bits(twice[octet % 64 : octet % 64 + 8]))
    return row_of_bytes(answer)


def expected_bits(x, octets):
    return [long_of_bits([bits_of_long(x, k // 8)[octet % 64] for k, octet in enumerate(octets)])]


class FieldsTest(CallTest):
    def test_arguments(self):
        self.check_arguments(fields, ["x", "from_bits"])

    def test_bytes_of_a_long_in_their_places(self):
        x = mixed_rows(1, 31)[0]
        self.check(fields, (x, row_of_bytes([0, 8, 16, 24, 32, 40, 48, 56] * 8)), x)

    def test_bytes_of_a_long_reversed(self):
        from_bits = row_of_bytes([56, 48, 40, 32, 24, 16, 8, 0] * 8)
        self.check(fields, (row_of_longs([A] * 8), from_bits), row_of_longs([0xEFCDAB8967452301] * 8))

    def test_places_within_and_round_the_end(self):
        from_bits = row_of_bytes([0, 4, 1, 56, 60, 57, 63, 32] * 8)
        expected = row_of_bytes([0xEF, 0xDE, 0xF7, 0x01, 0xF0, 0x80, 0xDE, 0x67] * 8)
        self.check(fields, (row_of_longs([A] * 8), from_bits), expected)

    def test_bit_0_stands_behind_bit_63(self):
        self.check(fields, ([1, 0] * 8, row_of_bytes([63] * 64)), row_of_bytes([2] * 64))
        self.check(fields, ([1, 0] * 8, row_of_bytes([57] * 64)), row_of_bytes([128] * 64))
        self.check(fields, ([1, 0] * 8, row_of_bytes([56] * 64)), ZEROS)

    def test_modulo_64(self):
        from_bits = row_of_bytes([64, 68, 255, 128, 192, 127, 120, 191] * 8)
        expected = row_of_bytes([0xEF, 0xDE, 0xDE, 0xEF, 0xEF, 0xDE, 0x01, 0xDE] * 8)
        self.check(fields, (row_of_longs([A] * 8), from_bits), expected)

    def test_each_byte_of_each_long_by_itself(self):
        x = mixed_rows(1, 32)[0]
        for k in range(64):
            for place in (1, 13, 57, 63, 64, 255):
                octets = [0] * 64
                octets[k] = place
                self.check(fields, (x, row_of_bytes(octets)), expected_fields(x, octets))

    def test_each_place(self):
        x = mixed_rows(1, 33)[0]
        for start in range(0, 256, 8):
            octets = [(start + 29 * k) % 256 for k in range(64)]
            self.check(fields, (x, row_of_bytes(octets)), expected_fields(x, octets))

    def test_longs_do_not_reach_into_one_another(self):
        x = row_of_longs([0, TOP_LONG] * 4)
        self.check(fields, (x, row_of_bytes([63] * 64)), x)

    def test_edges_of_numbers(self):
        self.check(fields, (ZEROS, STEPS), ZEROS)
        self.check(fields, (TOPS, STEPS), TOPS)
        self.check(fields, (row_of_longs([A] * 8), ZEROS), row_of_bytes([0xEF] * 64))
        self.check(fields, (row_of_longs([A] * 8), TOPS), row_of_bytes([0xDE] * 64))

    def test_mixed(self):
        for x, from_bits in zip(mixed_rows(10, 34), mixed_rows(10, 35)):
            self.check(fields, (x, from_bits), expected_fields(x, bytes_of_row(from_bits)))
            self.check(fields, (x, x), expected_fields(x, bytes_of_row(x)))


class BitsTest(CallTest):
    def test_arguments(self):
        self.check_arguments(bits, ["x", "which"])

    def test_all_0_and_all_ones(self):
        for which in [ZEROS, TOPS, STEPS] + mixed_rows(2, 41):
            self.check(bits, (ZEROS, which), [0])
            self.check(bits, (TOPS, which), [TOP_LONG])

    def test_one_place_in_all_bytes(self):
        x = row_of_longs([2**0, 2**31, 2**32, 2**63, 0, TOP_LONG, 2**0 + 2**63, 2**31 + 2**32])
        by_place = {0: 0x00FF_FF00_0000_00FF, 31: 0xFF00_FF00_0000_FF00, 32: 0xFF00_FF00_00FF_0000}
        by_place[63] = 0x00FF_FF00_FF00_0000
        by_place[64] = by_place[128] = by_place[192] = by_place[0]
        by_place[96] = by_place[32]
        by_place[95] = by_place[31]
        by_place[127] = by_place[191] = by_place[255] = by_place[63]
        for place, expected in by_place.items():
            self.check(bits, (x, row_of_bytes([place] * 64)), [expected])

    def test_lowest_and_highest_bit_of_the_answer(self):
        octets = [1] * 64
        octets[0] = 0
        self.check(bits, ([1, 0] + [0] * 14, row_of_bytes(octets)), [1])
        octets = [1] * 64
        octets[63] = 63
        self.check(bits, ([0] * 15 + [2**31], row_of_bytes(octets)), [2**63])
        octets[63] = 255
        self.check(bits, ([0] * 15 + [2**31], row_of_bytes(octets)), [2**63])

    def test_each_byte_by_itself(self):
        for k in range(64):
            for place in (0, 31, 32, 63):
                octets = [(place + 1) % 64] * 64
                octets[k] = place
                x = row_of_longs([2**place] * 8)
                self.check(bits, (x, row_of_bytes(octets)), [2**k])

    def test_a_byte_reads_its_own_long_alone(self):
        for i in range(8):
            longs = [0] * 8
            longs[i] = TOP_LONG
            self.check(bits, (row_of_longs(longs), STEPS), [0xFF * 256**i])

    def test_edges_of_numbers(self):
        self.check(bits, ([TOP, 0] * 8, ZEROS), [TOP_LONG])
        self.check(bits, ([TOP, 0] * 8, TOPS), [0])
        self.check(bits, ([0, TOP] * 8, ZEROS), [0])
        self.check(bits, ([0, TOP] * 8, TOPS), [TOP_LONG])

    def test_mixed(self):
        for x, which in zip(mixed_rows(20, 42), mixed_rows(20, 43)):
            self.check(bits, (x, which), expected_bits(x, bytes_of_row(which)))
            self.check(bits, (x, x), expected_bits(x, bytes_of_row(x)))


if __name__ == "__main__":
    unittest.main()
