"""Lists of many lengths to try, and numbers that are refused."""

from calls import mixed_rows

# Numbers of words, keys or groups that are above what is allowed.
TOO_MANY = [65537, 65538, 65600, 131072, 2147483647, 2147483648, 4294901760, 4294967295]


def mixed_words(count, seed):
    """So many words that look mixed but are the same in every run."""
    return [word for row in mixed_rows(count // 16 + 1, seed) for word in row][:count]
