"""What holds for the answer of every function, whatever it is asked."""

import contextlib
import inspect
import io
import unittest

from sawteeth.teeth import corner, floors, round_of, sign, six

PARAMETERS = (
    (six, ["h", "k"]),
    (sign, ["h", "n"]),
    (corner, ["a", "b", "c"]),
    (round_of, ["a", "b", "c", "d"]),
    (floors, ["a", "b", "c", "n"]),
)

# How many numbers an answer holds that isn't a refusal.
LENGTHS = {six: 2, sign: 1, corner: 1, round_of: 2, floors: 2}

CALLS = (
    (six, ((2, 7), (1, 1), (0, 1), (-811, 2000), (2, 4), (0, 9), (1, 0), (1000001, 5), (4, -2))),
    (sign, ((2, 7), (3, 7), (1, 1), (0, 1), (-81, 250), (2, 4), (0, 9), (1, 0), (1000001, 5), (4, -2))),
    (corner, ((1, 1, 1), (2, 3, 6), (5, 7, 9), (25, 25, 25), (0, 1, 1), (1, -1, 1), (1, 1, 1001))),
    (round_of, (
        (1, 5, 0, 1), (-1, 5, 0, -1), (0, -1, 1, 0), (2, 3, 5, 8), (-2, -3, -5, -8), (1, 0, -2000, 1),
        (1, 1, 1, 1), (2, 0, 0, 1), (1000001, 0, 0, 1), (1, 0, -1000001, 1),
    )),
    (floors, (
        (1, 0, 2, 5), (-7, 3, 5, 10), (2, 4, 6, 9), (5, 5, 5, 0), (0, 0, 1, 1), (-1000000, -1000000, 1, 10000),
        (1, 1, 0, 1), (1, 1, 1, -1), (1000001, 0, 1, 1), (0, -1000001, 1, 1), (0, 0, 1, 1000001),
    )),
)


def calls():
    for function, rows in CALLS:
        for numbers in rows:
            yield function, numbers


class Answers(unittest.TestCase):
    def test_the_same_call_twice(self):
        for function, numbers in calls():
            with self.subTest(function=function.__name__, numbers=numbers):
                first = function(*numbers)
                kept = list(first)
                second = function(*numbers)
                self.assertEqual(second, kept)
                self.assertIsNot(second, first)
                first.append(99)
                first[0] = 98
                self.assertEqual(second, kept)
                self.assertEqual(function(*numbers), kept)

    def test_lists_of_whole_numbers(self):
        for function, numbers in calls():
            with self.subTest(function=function.__name__, numbers=numbers):
                answer = function(*numbers)
                self.assertIs(type(answer), list)
                self.assertEqual([type(number) for number in answer], [int] * len(answer))

    def test_length_of_the_answer(self):
        for function, numbers in calls():
            with self.subTest(function=function.__name__, numbers=numbers):
                answer = function(*numbers)
                self.assertEqual(len(answer), 1 if answer[0] < 0 else LENGTHS[function])
                if len(answer) == 2:
                    self.assertEqual(answer[0], 0)

    def test_each_kind_of_answer_is_among_the_calls(self):
        for function, rows in CALLS:
            with self.subTest(function=function.__name__):
                firsts = {function(*numbers)[0] for numbers in rows}
                self.assertIn(-2, firsts)
                self.assertTrue(any(first >= 0 for first in firsts))

    def test_nothing_is_printed(self):
        out, err = io.StringIO(), io.StringIO()
        with contextlib.redirect_stdout(out), contextlib.redirect_stderr(err):
            for function, numbers in calls():
                function(*numbers)
        self.assertEqual((out.getvalue(), err.getvalue()), ("", ""))

    def test_names_of_what_is_handed_in(self):
        for function, names in PARAMETERS:
            with self.subTest(function=function.__name__):
                self.assertEqual(list(inspect.signature(function).parameters), names)

    def test_handed_in_by_name(self):
        for function, names in PARAMETERS:
            for numbers in dict(CALLS)[function]:
                with self.subTest(function=function.__name__, numbers=numbers):
                    self.assertEqual(function(**dict(zip(names, numbers))), function(*numbers))


if __name__ == "__main__":
    unittest.main()
