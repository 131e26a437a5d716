"""The interface as a whole: all its calls, by their names and arguments, and nothing kept between them."""

import json
import pathlib
import subprocess
import sys
import unittest

from calls import STEPS, TOP, TOPS, ZEROS, CallTest, mixed_rows
from lists import mixed_words
from sixteenwordsdesk import rows

TOP_FOLDER = pathlib.Path(__file__).resolve().parent.parent

ARGUMENTS = {
    "pack": "m x",
    "spread": "m next_words y",
    "first": "x",
    "both": "x y",
    "turn": "way x by",
    "join": "way x y by",
    "fields": "x from_bits",
    "bits": "x which",
    "times": "part s x y",
    "pick": "x which y",
    "slide": "n x y",
    "fourths": "how x y",
    "apart": "how x y",
    "fill": "m what",
    "marks": "what x y",
    "count": "what x",
    "masks": "a b op",
    "filter_words": "n lo hi words",
    "group": "n groups sums keys values",
    "meet": "n k a b",
    "narrow": "n width words",
    "widen": "n width octets",
    "product": "n a b",
    "copy": "n octets",
}

# Runs each call that stands in the input by itself and writes the answers.
ALONE = """
import json, sys
from sixteenwordsdesk import rows
name, arguments = json.load(sys.stdin)
print(json.dumps(getattr(rows, name)(*arguments)))
"""


def samples():
    """Some arguments for each call, refused ones among them."""
    x, y, z, s = mixed_rows(4, 701)
    words = mixed_words(40, 702)
    octets = [word % 256 for word in mixed_words(128, 703)]
    digits = [word * 1048573 for word in mixed_words(12, 704)]
    return [
        ("pack", (0x5A5A, x)), ("pack", (65535, TOPS)),
        ("spread", (0x5A5A, x, y)), ("spread", (0, x, ZEROS)), ("spread", (65535, x, y)),
        ("first", (x,)), ("first", (ZEROS,)),
        ("both", (x, x)), ("both", (x, y)),
        ("turn", (0, x, y)), ("turn", (1, x, y)), ("turn", (2, x, y)),
        ("join", (0, x, y, z)), ("join", (1, x, y, z)), ("join", (-1, x, y, z)),
        ("fields", (x, y)), ("bits", (x, y)),
        ("times", (0, s, x, y)), ("times", (1, s, x, y)), ("times", (2, s, x, y)),
        ("pick", (x, y, z)), ("slide", (0, x, y)), ("slide", (21, x, y)),
        ("fourths", (0xE4, x, y)), ("apart", (0x1B, x, y)),
        ("fill", (0x5A5A, 0)), ("fill", (0x5A5A, 1)), ("fill", (0x5A5A, 2)),
        ("marks", (0, x, y)), ("marks", (1, x, y)), ("marks", (2, x, y)), ("marks", (3, x, y)),
        ("count", (0, x)), ("count", (1, x)), ("count", (2, x)), ("count", (3, x)),
        ("masks", (0x5A5A, 0x0FF0, 5)), ("masks", (0, 0, 0)), ("masks", (0, 0, 10)),
        ("filter_words", (40, 2**30, 2**31, words)), ("filter_words", (40, 0, TOP, words)),
        ("filter_words", (65537, 0, TOP, [])),
        ("group", (16, 16, x, [word % 20 for word in y], z)), ("group", (0, 16, x, [], [])),
        ("group", (0, 0, [], [], [])),
        ("meet", (16, 40, sorted(x), sorted(words + x)[:40])), ("meet", (16, 16, STEPS, STEPS)),
        ("meet", (16, 16, STEPS, TOPS)), ("meet", (65537, 0, [], [])),
        ("narrow", (40, 32, words)), ("narrow", (16, 7, STEPS)), ("narrow", (16, 3, STEPS)), ("narrow", (16, 0, [])),
        ("widen", (128, 8, octets)), ("widen", (33, 31, octets)), ("widen", (16, 33, [])),
        ("product", (12, digits, digits[::-1])), ("product", (1, [2**52], [0])), ("product", (65, [], [])),
        ("copy", (128, octets)), ("copy", (0, [])), ("copy", (65, [])),
    ]


class InterfaceTest(CallTest):
    def test_names_and_arguments(self):
        self.assertEqual(len(ARGUMENTS), 24)
        for name, arguments in ARGUMENTS.items():
            self.check_arguments(getattr(rows, name), arguments.split())

    def test_each_call_has_samples(self):
        self.assertEqual({name for name, _ in samples()}, set(ARGUMENTS))

    def test_nothing_handed_in_is_changed(self):
        for name, arguments in samples():
            function = getattr(rows, name)
            self.check(function, arguments, function(*arguments))

    def test_by_names_of_arguments(self):
        for name, arguments in samples():
            function = getattr(rows, name)
            named = dict(zip(ARGUMENTS[name].split(), arguments))
            self.assertEqual(function(**named), function(*arguments))

    def test_order_of_calls_does_not_matter(self):
        told = [getattr(rows, name)(*arguments) for name, arguments in samples()]
        pairs = list(zip(samples(), told))
        for ordered in (pairs[::-1], pairs[1::2] + pairs[::2], pairs[::3] + pairs[::-1]):
            for (name, arguments), expected in ordered:
                self.assertEqual(getattr(rows, name)(*arguments), expected, name)

    def test_a_refusal_is_one_number(self):
        for name, arguments in samples():
            answer = getattr(rows, name)(*arguments)
            if answer[0] < 0:
                self.assertEqual(len(answer), 1, name)
            self.assertTrue(all(number >= 0 for number in answer[1:]), name)

    def test_nothing_is_kept_in_the_module(self):
        before = {name: repr(value) for name, value in vars(rows).items() if not name.startswith("__")}
        for name, arguments in samples():
            getattr(rows, name)(*arguments)
        after = {name: repr(value) for name, value in vars(rows).items() if not name.startswith("__")}
        self.assertEqual(after, before)
        for name in ARGUMENTS:
            self.assertEqual(vars(getattr(rows, name)), {}, name)

    def test_alone_and_for_the_first_time(self):
        seen = set()
        for name, arguments in samples():
            if name not in seen:
                seen.add(name)
                run = subprocess.run(
                    [sys.executable, "-B", "-c", ALONE],
                    input=json.dumps([name, arguments]),
                    capture_output=True, text=True, cwd=TOP_FOLDER, check=True,
                )
                self.assertEqual(json.loads(run.stdout), getattr(rows, name)(*arguments), name)
                self.assertEqual(run.stderr, "", name)


if __name__ == "__main__":
    unittest.main()
