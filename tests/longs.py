"""Rows written as eight longs or 64 bytes, and read as their bits."""


def row_of_longs(longs):
    """The sixteen words of eight longs, cut from their written form."""
    row = []
    for value in longs:
        digits = format(value, "016x")
        row.append(int(digits[8:], 16))
        row.append(int(digits[:8], 16))
    return row


def row_of_bytes(octets):
    """The sixteen words of 64 bytes, the lowest first."""
    return [int.from_bytes(bytes(octets[4 * i : 4 * i + 4]), "little") for i in range(16)]


def bytes_of_row(row):
    return [octet for word in row for octet in word.to_bytes(4, "little")]


def bits_of_long(row, i):
    """The 64 bits of long i as a list, bit 0 first."""
    return [(row[2 * i + place // 32] // 2 ** (place % 32)) % 2 for place in range(64)]


def long_of_bits(places):
    return sum(bit * 2**place for place, bit in enumerate(places))


def row_of_bits(eight):
    return row_of_longs([long_of_bits(places) for places in eight])
