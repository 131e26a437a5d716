"""The calls on rows of sixteen words of 32 bits, word 0 lowest."""

WORDS = 16
LONGS = 8
LONG_BYTES = 8
FOURTH_WORDS = 4
BYTE_BITS = 8
WORD_BITS = 32
LONG_BITS = 64
TOP_WORD = 4294967295
TOP_LONG = 18446744073709551615
TOP_BYTE = 255
TOP_MASK = 65535
MOST_WORDS = 65536
MOST_DIGITS = 64
MOST_BYTES = 4194304
# Digits of times and product are below 2 to the power 52.
DIGIT_LIMIT = 4503599627370496


def has_bit(number, place):
    """Tell whether the bit at this place of the number is 1."""
    return ((number >> place) & 1) == 1


def two_bits(number, j):
    """Answer bits 2 j and 2 j + 1 of the number, from 0 to 3."""
    return (number >> (2 * j)) % 4


def places_among(words, others):
    """Answer a mask: bit i where word i is one of the others."""
    mask = 0
    for i in range(len(words)):
        if words[i] in others:
            mask = mask | (1 << i)
    return mask


def longs_of(row):
    """Answer the row's eight longs of 64 bits, the lowest first."""
    return [row[2 * i] | (row[2 * i + 1] << WORD_BITS) for i in range(LONGS)]


def words_of(longs):
    """Answer the sixteen words of eight longs."""
    words = []
    for value in longs:
        words.append(value & TOP_WORD)
        words.append(value >> WORD_BITS)
    return words


def join_left(upper, lower, amount):
    """Answer the upper long of the two, one above the other, shifted left by 0 to 63 bits."""
    return ((upper << amount) | (lower >> (LONG_BITS - amount))) & TOP_LONG


def join_right(upper, lower, amount):
    """Answer the lower long of the two, one above the other, shifted right by 0 to 63 bits."""
    return ((lower >> amount) | (upper << (LONG_BITS - amount))) & TOP_LONG


def byte_of(value, k):
    """Answer byte k of the long, byte 0 lowest."""
    return (value >> (8 * k)) & TOP_BYTE


def place_told(places, k):
    """Answer byte k of the long modulo 64."""
    return byte_of(places, k) % LONG_BITS


def fourth_told(row, how, j):
    """Answer the four words of the row's fourth that bits 2 j and 2 j + 1 of how tell."""
    start = FOURTH_WORDS * two_bits(how, j)
    return row[start:start + FOURTH_WORDS]


def four_distances(one, one_start, other, other_start):
    """Answer the sum of the distances of four bytes of one long, from a place on, from four of another."""
    return sum([abs(byte_of(one, one_start + k) - byte_of(other, other_start + k)) for k in range(4)])


def sums_of_distances(one, other):
    """Answer a long of four sums of 16 bits, of the distances of one's bytes from the other's."""
    answer = 0
    for j in range(4):
        # The lower two sums are of one's lower four bytes, the upper two of its upper four.
        answer = answer | (four_distances(one, 4 * (j // 2), other, j) << (16 * j))
    return answer


def is_marked(what, one, other):
    """Tell whether the two words are marked, as what tells."""
    if what == 0:
        return has_bit(one, WORD_BITS - 1)
    if what == 1:
        return (one & other) != 0
    if what == 2:
        return (one & other) == 0
    return False


def ones_in(word):
    """Answer how many bits of the word are 1."""
    return sum([(word >> place) & 1 for place in range(WORD_BITS)])


def lowest_one(word):
    """Answer which bit of the word is its lowest 1, and 32 if it has none."""
    for place in range(WORD_BITS):
        if has_bit(word, place):
            return place
    return WORD_BITS


def is_ascending(words):
    """Tell whether each word is greater than the one before it."""
    return all([words[i - 1] < words[i] for i in range(1, len(words))])


def can_pack(n, width):
    """Tell whether n words of this width may be packed."""
    return n <= MOST_WORDS and width >= 1 and width <= WORD_BITS


def recut(numbers, width, new_width):
    """Answer the numbers' bits, width of each, one behind another, cut into numbers of another width."""
    answer = []
    held = 0
    held_bits = 0
    for number in numbers:
        held = held | (number << held_bits)
        held_bits = held_bits + width
        while held_bits >= new_width:
            answer.append(held & ((1 << new_width) - 1))
            held = held >> new_width
            held_bits = held_bits - new_width
    if held_bits > 0:
        answer.append(held)
    return answer


def part_of_product(part, one, other):
    """Answer the lower (part 0) or the upper (part 1) digit of the product of two longs' lowest digits."""
    whole = (one % DIGIT_LIMIT) * (other % DIGIT_LIMIT)
    if part == 0:
        return whole % DIGIT_LIMIT
    return whole // DIGIT_LIMIT


def are_digits(numbers):
    """Tell whether each number is a digit, below 2 to the power 52."""
    return all([number < DIGIT_LIMIT for number in numbers])


def product_digits(n, a, b):
    """Answer the 2 n digits of the product of two numbers of n digits, the lowest first."""
    answer = [0] * (2 * n)
    for i in range(n):
        carry = 0
        for j in range(n):
            total = answer[i + j] + a[i] * b[j] + carry
            answer[i + j] = total % DIGIT_LIMIT
            carry = total // DIGIT_LIMIT
        answer[i + n] = carry
    return answer


def pack(m, x):
    """Answer how many words of x are in m, then these words in their order."""
    picked = [x[i] for i in range(WORDS) if has_bit(m, i)]
    return [len(picked)] + picked


def spread(m, next_words, y):
    """Answer y's words, but those in m are taken from next_words, one after another."""
    answer = []
    taken = 0
    for i in range(WORDS):
        if has_bit(m, i):
            answer.append(next_words[taken])
            taken = taken + 1
        else:
            answer.append(y[i])
    return answer


def first(x):
    """Answer for each word a mask of the places below it that hold the same word."""
    return [places_among(x[:i], [x[i]]) for i in range(WORDS)]


def both(x, y):
    """Answer which words of x are among y's (bits 0 to 15), and of y among x's (bits 16 to 31)."""
    return [places_among(x, y) | (places_among(y, x) << WORDS)]


def turn(way, x, by):
    """Answer x's longs turned round by by's: to the left (way 0), to the right (way 1)."""
    # A long turned round is a long joined with itself.
    return join(way, x, x, by)


def join(way, x, y, by):
    """Answer x's longs shifted by by's, with y's bits coming in: from below (way 0), from above (way 1)."""
    if way != 0 and way != 1:
        return list(x)
    x_longs = longs_of(x)
    y_longs = longs_of(y)
    amounts = [value % LONG_BITS for value in longs_of(by)]
    if way == 0:
        return words_of([join_left(x_longs[i], y_longs[i], amounts[i]) for i in range(LONGS)])
    return words_of([join_right(y_longs[i], x_longs[i], amounts[i]) for i in range(LONGS)])


def fields_of_long(value, places):
    """Answer a long of eight bytes, each of them eight bits of the value from the place told on."""
    answer = 0
    for k in range(LONG_BYTES):
        turned = join_right(value, value, place_told(places, k))
        answer = answer | ((turned & TOP_BYTE) << (8 * k))
    return answer


def fields(x, from_bits):
    """Answer for each byte of from_bits the eight bits of x's long from there on, round its end."""
    x_longs = longs_of(x)
    from_longs = longs_of(from_bits)
    return words_of([fields_of_long(x_longs[i], from_longs[i]) for i in range(LONGS)])


def bits(x, which):
    """Answer one number: bit k is the bit of x's long that byte k of which tells."""
    x_longs = longs_of(x)
    which_longs = longs_of(which)
    answer = 0
    for k in range(LONGS * LONG_BYTES):
        i = k // LONG_BYTES
        if has_bit(x_longs[i], place_told(which_longs[i], k % LONG_BYTES)):
            answer = answer | (1 << k)
    return [answer]


def times(part, s, x, y):
    """Answer s's longs with the lower (part 0) or upper (part 1) digit of x's times y's longs added."""
    if part != 0 and part != 1:
        return list(s)
    s_longs = longs_of(s)
    x_longs = longs_of(x)
    y_longs = longs_of(y)
    return words_of([(s_longs[i] + part_of_product(part, x_longs[i], y_longs[i])) & TOP_LONG for i in range(LONGS)])


def pick(x, which, y):
    """Answer the words of x and y, one behind the other, that which's words tell."""
    pair = x + y
    return [pair[number % (2 * WORDS)] for number in which]


def slide(n, x, y):
    """Answer sixteen words of x and y, one behind the other, from word n modulo 16 on."""
    start = n % WORDS
    return (x + y)[start:start + WORDS]


def fourths(how, x, y):
    """Answer two fourths of x, then two of y, as each two bits of how tell."""
    return fourth_told(x, how, 0) + fourth_told(x, how, 1) + fourth_told(y, how, 2) + fourth_told(y, how, 3)


def apart(how, x, y):
    """Answer sums of distances of x's bytes from those of y, whose words how puts in another order."""
    x_longs = longs_of(x)
    ordered = [y[i - i % FOURTH_WORDS + two_bits(how, i % FOURTH_WORDS)] for i in range(WORDS)]
    y_longs = longs_of(ordered)
    return words_of([sums_of_distances(x_longs[i], y_longs[i]) for i in range(LONGS)])


def fill(m, what):
    """Answer words that have all bits where they are in m (what 0), or that are m each (what 1)."""
    if what == 0:
        return [TOP_WORD if has_bit(m, i) else 0 for i in range(WORDS)]
    if what == 1:
        return [m] * WORDS
    return [0] * WORDS


def marks(what, x, y):
    """Answer one mask: bit i if word i of x has its highest bit (what 0), a bit of y's (1) or none (2)."""
    answer = 0
    for i in range(WORDS):
        if is_marked(what, x[i], y[i]):
            answer = answer | (1 << i)
    return [answer]


def count(what, x):
    """Answer for each word the bits above its highest 1 (what 0), its 1s (1), its lowest 1's place (2)."""
    if what == 0:
        return [WORD_BITS - word.bit_length() for word in x]
    if what == 1:
        return [ones_in(word) for word in x]
    if what == 2:
        return [lowest_one(word) for word in x]
    return list(x)


def masks(a, b, op):
    """Answer what op makes of two masks, 65536 more if that is 0, 131072 more if it is 65535; or -1."""
    if op < 0 or op > 9:
        return [-1]
    # Nothing of a mask is left behind 16 places, so a greater shift need not be made.
    by_op = [
        a & b, b & ~a, a | b, a ^ b, ~(a ^ b),
        a + b, a << min(b, WORDS), a >> b, ((a & TOP_BYTE) << 8) | (b & TOP_BYTE), ~a,
    ]
    r = by_op[op] & TOP_MASK
    if r == 0:
        return [r + 65536]
    if r == TOP_MASK:
        return [r + 131072]
    return [r]


def filter_words(n, lo, hi, words):
    """Answer how many of the words are from lo to hi, then these in their order; or -1."""
    if n > MOST_WORDS:
        return [-1]
    kept = [word for word in words if lo <= word and word <= hi]
    return [len(kept)] + kept


def group(n, groups, sums, keys, values):
    """Answer how many keys tell no group, then sums with each other key's value added to its group; or -1."""
    if n > MOST_WORDS or groups < 1 or groups > MOST_WORDS:
        return [-1]
    totals = list(sums)
    strays = 0
    for i in range(n):
        if keys[i] < groups:
            totals[keys[i]] = (totals[keys[i]] + values[i]) & TOP_WORD
        else:
            strays = strays + 1
    return [strays] + totals


def meet(n, k, a, b):
    """Answer how many words are in both sets, then these, ascending; or -1; or -2 if one is not ascending."""
    if n > MOST_WORDS or k > MOST_WORDS:
        return [-1]
    if not is_ascending(a) or not is_ascending(b):
        return [-2]
    known = {}
    for word in b:
        known[word] = True
    common = [word for word in a if word in known]
    return [len(common)] + common


def narrow(n, width, words):
    """Answer how many bytes the words fill, with width bits each, then these; or -1; or -2 if a word has more."""
    if not can_pack(n, width):
        return [-1]
    if any([(word >> width) != 0 for word in words]):
        return [-2]
    octets = recut(words, width, BYTE_BITS)
    return [len(octets)] + octets


def widen(n, width, octets):
    """Answer 0, then the n words that the bytes hold, with width bits each; or -1."""
    if not can_pack(n, width):
        return [-1]
    # What is over in the last byte may make further words.
    return [0] + recut(octets, BYTE_BITS, width)[:n]


def product(n, a, b):
    """Answer 0, then the 2 n digits of the product of two numbers of n digits; or -1; or -2 for a wrong digit."""
    if n > MOST_DIGITS:
        return [-1]
    if not are_digits(a) or not are_digits(b):
        return [-2]
    return [0] + product_digits(n, a, b)


def copy(n, octets):
    """Answer 0, then the n bytes; or -1 if n is too great or no multiple of 64."""
    if n > MOST_BYTES or n % 64 != 0:
        return [-1]
    return [0] + octets
