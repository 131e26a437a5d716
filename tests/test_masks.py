"""Point 9: masks."""

import unittest

from calls import CallTest, mixed_rows
from sixteenwordsdesk.rows import masks

ONE_BIT = [2**i for i in range(16)]
EDGES = [0, 65535] + ONE_BIT
SHIFTS = [0, 1, 15, 16, 17, 65535]
MIXED = [0x5555, 0xAAAA, 0x0FF0, 0x7FFF, 0xFFFE, 0x1234, 0x00FF, 0xFF00, 0x8001]
OTHER_OPS = [-2147483648, -2147483647, -65536, -10, -9, -2, -1, 10, 11, 16, 256, 65536, 65545, 2147483647]


def written(mask):
    return format(mask, "016b")


def bitwise(told):
    """A rule for two masks out of a rule for two of their bits."""

    def made(a, b):
        return int("".join(told[one + other] for one, other in zip(written(a), written(b))), 2)

    return made


def added(a, b):
    return int(format(a + b, "017b")[1:], 2)


def shifted_left(a, b):
    return int((written(a) + "0" * min(b, 16))[-16:], 2)


def shifted_right(a, b):
    return int(("0" * min(b, 16) + written(a))[:16], 2)


def lower_halves(a, b):
    return int(written(a)[8:] + written(b)[8:], 2)


BY_OP = [
    bitwise({"00": "0", "01": "0", "10": "0", "11": "1"}),
    bitwise({"00": "0", "01": "1", "10": "0", "11": "0"}),
    bitwise({"00": "0", "01": "1", "10": "1", "11": "1"}),
    bitwise({"00": "0", "01": "1", "10": "1", "11": "0"}),
    bitwise({"00": "1", "01": "0", "10": "0", "11": "1"}),
    added,
    shifted_left,
    shifted_right,
    lower_halves,
    bitwise({"00": "1", "01": "1", "10": "0", "11": "0"}),
]


def with_signs(r):
    return [{0: 65536, 65535: 196607}.get(r, r)]


class MasksTest(CallTest):
    def check_r(self, a, b, op, r):
        self.check(masks, (a, b, op), with_signs(r))

    def test_arguments(self):
        self.check_arguments(masks, ["a", "b", "op"])

    def test_each_op(self):
        a, b = 0x0F35, 0x33A6
        self.check(masks, (a, b, 0), [0x0324])
        self.check(masks, (a, b, 1), [0x3082])
        self.check(masks, (a, b, 2), [0x3FB7])
        self.check(masks, (a, b, 3), [0x3C93])
        self.check(masks, (a, b, 4), [0xC36C])
        self.check(masks, (a, b, 5), [0x42DB])
        self.check(masks, (a, 3, 6), [0x79A8])
        self.check(masks, (a, 3, 7), [0x01E6])
        self.check(masks, (a, b, 8), [0x35A6])
        self.check(masks, (a, b, 9), [0xF0CA])

    def test_edges_with_edges(self):
        for op in range(10):
            for a in EDGES:
                for b in EDGES:
                    self.check_r(a, b, op, BY_OP[op](a, b))

    def test_r_is_0(self):
        for arguments in (
            (0, 0, 0), (0x5555, 0xAAAA, 0), (65535, 65535, 1), (7, 3, 1), (0, 0, 2), (9, 9, 3), (65535, 65535, 3),
            (0, 65535, 4), (0x5555, 0xAAAA, 4), (0, 0, 5), (1, 65535, 5), (32768, 32768, 5), (0, 3, 6), (32768, 1, 6),
            (65535, 16, 6), (0, 3, 7), (1, 1, 7), (65535, 16, 7), (0, 0, 8), (0xFF00, 0x1200, 8), (65535, 7, 9),
        ):
            self.check(masks, arguments, [65536])

    def test_r_is_65535(self):
        for arguments in (
            (65535, 65535, 0), (0, 65535, 1), (65535, 0, 2), (0x5555, 0xAAAA, 2), (0x5555, 0xAAAA, 3), (0, 65535, 3),
            (0, 0, 4), (9, 9, 4), (65535, 65535, 4), (65535, 0, 5), (1, 65534, 5), (65535, 0, 6), (65535, 0, 7),
            (255, 255, 8), (65535, 65535, 8), (0x12FF, 0x34FF, 8), (0, 7, 9),
        ):
            self.check(masks, arguments, [196607])

    def test_r_is_neither(self):
        self.check(masks, (1, 65535, 0), [1])
        self.check(masks, (65535, 65534, 0), [65534])
        self.check(masks, (0, 1, 2), [1])
        self.check(masks, (65534, 0, 2), [65534])
        self.check(masks, (1, 0, 9), [65534])
        self.check(masks, (65534, 0, 9), [1])

    def test_without_is_of_b(self):
        self.check(masks, (0b0011, 0b0101, 1), [0b0100])
        self.check(masks, (0b0101, 0b0011, 1), [0b0010])
        self.check(masks, (0, 0x8001, 1), [0x8001])

    def test_sums_over_the_top(self):
        self.check(masks, (65535, 2, 5), [1])
        self.check(masks, (2, 65535, 5), [1])
        self.check(masks, (65535, 65535, 5), [65534])
        self.check(masks, (40000, 40000, 5), [14464])
        self.check(masks, (32767, 32768, 5), [196607])
        self.check(masks, (32768, 32769, 5), [1])

    def test_shifts(self):
        for b in SHIFTS:
            for a in EDGES + MIXED:
                self.check_r(a, b, 6, shifted_left(a, b))
                self.check_r(a, b, 7, shifted_right(a, b))

    def test_named_shifts(self):
        self.check(masks, (65535, 1, 6), [65534])
        self.check(masks, (65535, 15, 6), [32768])
        self.check(masks, (1, 15, 6), [32768])
        self.check(masks, (65535, 1, 7), [32767])
        self.check(masks, (65535, 15, 7), [1])
        self.check(masks, (32768, 15, 7), [1])

    def test_shifts_by_16_or_more(self):
        for b in [16, 17, 24, 31, 32, 33, 48, 63, 64, 65, 256, 257, 4096, 32768, 65534, 65535]:
            for a in EDGES + MIXED:
                for op in (6, 7):
                    self.check(masks, (a, b, op), [65536])

    def test_shifts_by_each_number(self):
        for b in range(20):
            for a in (1, 32768, 65535, 0x1234):
                self.check_r(a, b, 6, shifted_left(a, b))
                self.check_r(a, b, 7, shifted_right(a, b))

    def test_lower_halves(self):
        self.check(masks, (0x0012, 0x0034, 8), [0x1234])
        self.check(masks, (0xAB12, 0xCD34, 8), [0x1234])
        self.check(masks, (0xFF00, 0x0034, 8), [0x0034])
        self.check(masks, (0x0012, 0xFF00, 8), [0x1200])
        self.check(masks, (0x0100, 0x0100, 8), [65536])

    def test_b_does_not_count_for_op_9(self):
        for b in EDGES:
            self.check(masks, (0x1234, b, 9), [0xEDCB])

    def test_another_op(self):
        for op in OTHER_OPS:
            for a, b in ((0, 0), (1, 0), (65535, 65535), (0x1234, 3), (0, 65535)):
                self.check(masks, (a, b, op), [-1])

    def test_mixed(self):
        for row in mixed_rows(10, 91):
            for word in row:
                for op in range(10):
                    self.check_r(word >> 16, word % 65536, op, BY_OP[op](word >> 16, word % 65536))


if __name__ == "__main__":
    unittest.main()
