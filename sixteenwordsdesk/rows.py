"""The calls on rows of sixteen words of 32 bits, word 0 lowest."""

WORDS = 16


def has_bit(number, place):
    """Tell whether the bit at this place of the number is 1."""
    return ((number >> place) & 1) == 1


def places_among(words, others):
    """Answer a mask: bit i where word i is one of the others."""
    mask = 0
    for i in range(len(words)):
        if words[i] in others:
            mask = mask | (1 << i)
    return mask


def pack(m, x):
    """Answer how many words of x are in m, then these words in their order."""
    picked = [x[i] for i in range(WORDS) if has_bit(m, i)]
    return [len(picked)] + picked


def spread(m, next_words, y):
    """Answer y's words, but those in m are taken from next_words, one after another."""
    answer = []
    taken = 0
    for i in range(WORDS):
        if has_bit(m, i):
            answer.append(next_words[taken])
            taken = taken + 1
        else:
            answer.append(y[i])
    return answer


def first(x):
    """Answer for each word a mask of the places below it that hold the same word."""
    return [places_among(x[:i], [x[i]]) for i in range(WORDS)]


def both(x, y):
    """Answer which words of x are among y's (bits 0 to 15), and of y among x's (bits 16 to 31)."""
    return [places_among(x, y) | (places_among(y, x) << WORDS)]
