"""What the tests of all calls share: rows to try, and what holds of every call."""

import contextlib
import inspect
import io
import unittest

TOP = 4294967295
ZEROS = [0] * 16
TOPS = [TOP] * 16
STEPS = list(range(100, 116))
# Ints that are neither 0, 1 nor 2, some of them equal to these modulo a power of two.
OTHER_INTS = [-2147483648, -2147483647, -65536, -256, -3, -2, -1, 3, 4, 256, 257, 65536, 65538, 2147483647]


def refuse(self, *args, **kwargs):
    raise AssertionError("a list that was handed in was changed")


class Guarded(list):
    """A list that can't be changed, not for a while either."""

    append = clear = extend = insert = pop = remove = reverse = sort = refuse
    __setitem__ = __delitem__ = __iadd__ = __imul__ = refuse


def mixed_rows(count, seed):
    """Rows of numbers that look mixed but are the same in every run."""
    state = seed
    rows = []
    for _ in range(count):
        row = []
        for _ in range(16):
            state = (state * 6364136223846793005 + 1442695040888963407) % 2**64
            row.append(state >> 32)
        rows.append(row)
    return rows


def guarded(argument):
    return Guarded(argument) if isinstance(argument, list) else argument


def copied(argument):
    return list(argument) if isinstance(argument, list) else argument


class CallTest(unittest.TestCase):
    def check(self, function, arguments, expected):
        """The call answers what is expected, and keeps to what holds of every call."""
        before = [copied(argument) for argument in arguments]
        printed = io.StringIO()
        with contextlib.redirect_stdout(printed), contextlib.redirect_stderr(printed):
            answer = function(*arguments)
            self.assertEqual(answer, expected)
            self.assertIs(type(answer), list)
            self.assertEqual({type(number) for number in answer}, {int})
            self.assertEqual(list(arguments), before)
            for argument in arguments:
                self.assertIsNot(answer, argument)
            # What the first answer is made into must not show in the second.
            answer.append(-1)
            self.assertEqual(list(arguments), before)
            self.assertEqual(function(*arguments), expected)
            self.assertEqual(function(*[guarded(argument) for argument in arguments]), expected)
        self.assertEqual(printed.getvalue(), "")

    def check_arguments(self, function, names):
        parameters = inspect.signature(function).parameters.values()
        self.assertEqual([parameter.name for parameter in parameters], names)
        for parameter in parameters:
            self.assertIs(parameter.default, inspect.Parameter.empty)
            self.assertEqual(parameter.kind, inspect.Parameter.POSITIONAL_OR_KEYWORD)
