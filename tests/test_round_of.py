"""Promise 4: round_of (a, b, c, d), the words' round, and what the document says ahead of it."""

import itertools
import math
import unittest
from fractions import Fraction

from sawteeth.teeth import round_of

LEAST_INT = -2147483648
GREATEST_INT = 2147483647
OUT_OF_RANGE = (1000001, 1000002, -1000001, -1000002, LEAST_INT, GREATEST_INT)


def tooth(x, k):
    height = Fraction(x, k) - math.floor(Fraction(x, k))
    return height - Fraction(1, 2) if height != 0 else height


def round_by_the_words(a, b, c, d):
    if c == 0:
        return b * d
    k = abs(c)
    twelve_sums = 12 * sum(tooth(i, k) * tooth(d * i, k) for i in range(k))
    answer = Fraction(a + d, c) + (-twelve_sums if c > 0 else twelve_sums)
    if answer.denominator != 1:
        raise ArithmeticError(f"not whole: {a}, {b}, {c}, {d}")
    return answer.numerator


def turn(c, d, steps=0):
    """Some a, b, c, d with a d less b c equal to 1; another one for each number of steps."""
    a = pow(d, -1, abs(c)) + steps * c
    return a, (a * d - 1) // c, c, d


def product(first, second):
    a, b, c, d = first
    e, f, g, h = second
    return a * e + b * g, a * f + b * h, c * e + d * g, c * f + d * h


def sign_of(x):
    return (x > 0) - (x < 0)


class RoundCase(unittest.TestCase):
    def check(self, numbers):
        a, b, c, d = numbers
        with self.subTest(numbers=numbers):
            self.assertEqual(a * d - b * c, 1)
            self.assertLessEqual(max(abs(number) for number in numbers), 1000000)
            self.assertEqual(round_of(*numbers), [0, round_by_the_words(*numbers)])


class OrdinaryInputs(RoundCase):
    def test_known_by_hand(self):
        # The sum of 1 and 3 is 1 / 18: (1 + 1) / 3 less 12 / 18 is 0. That of 1 and 5 is 1 / 5.
        known = (
            ((1, 0, 0, 1), 0), ((0, -1, 1, 0), 0), ((1, 0, 1, 1), 2), ((1, 0, -1, 1), -2), ((1, 0, 2, 1), 1),
            ((1, 0, 3, 1), 0), ((1, 0, 5, 1), -2), ((1, 0, -5, 1), 2), ((4, 1, 3, 1), 1), ((2, 1, 3, 2), 2),
        )
        for numbers, answer in known:
            with self.subTest(numbers=numbers):
                self.assertEqual(round_of(*numbers), [0, answer])

    def test_every_small_turn_against_the_words(self):
        some = 0
        for a, b, c, d in itertools.product(range(-7, 8), repeat=4):
            if a * d - b * c == 1:
                some += 1
                self.check((a, b, c, d))
        self.assertGreater(some, 500)

    def test_larger_turns_against_the_words(self):
        for c in (11, 12, 30, 89, 144, 210, 377, 610, 1023):
            for d in (1, 5, 7, 13, 55, -1, -17, c + 1, c - 1, -c - 1, 2 * c + 1, 1 - 3 * c):
                if math.gcd(c, d) == 1:
                    for steps in (0, 1, -2):
                        self.check(turn(c, d, steps))
                        self.check(turn(-c, d, steps))

    def test_the_same_turn_with_every_number_below_zero(self):
        for c, d in ((1, 0), (3, 1), (5, 8), (89, 55), (144, 89), (1999, 3), (2000, 811)):
            a, b, c, d = turn(c, d, 1)
            with self.subTest(c=c, d=d):
                self.assertEqual(round_of(-a, -b, -c, -d), round_of(a, b, c, d))

    def test_the_turn_back(self):
        for c, d in ((1, 0), (3, 1), (-5, 8), (89, 55), (-144, 89), (1999, 3), (2000, 811)):
            a, b, c, d = turn(c, d, 1)
            with self.subTest(c=c, d=d):
                self.assertEqual(round_of(d, -b, -c, a), [0, -round_of(a, b, c, d)[1]])

    def test_one_turn_after_another(self):
        # Rademacher: the rounds of two turns together are that of their product, but for 3 or nothing.
        turns = [turn(c, d) for c, d in ((1, 0), (1, 3), (-1, 2), (3, -1), (-4, 7), (5, 8), (11, -3), (-13, 21))]
        turns += [(1, 0, 0, 1), (1, 4, 0, 1), (-1, 3, 0, -1)]
        for first, second in itertools.product(turns, repeat=2):
            both = product(first, second)
            expected = round_of(*first)[1] + round_of(*second)[1] - 3 * sign_of(first[2] * second[2] * both[2])
            with self.subTest(first=first, second=second):
                self.assertEqual(round_of(*both), [0, expected])


class Edges(RoundCase):
    def test_c_is_zero(self):
        for b in (-1000000, -999999, -7, -1, 0, 1, 2, 7, 999999, 1000000):
            with self.subTest(b=b):
                self.assertEqual(round_of(1, b, 0, 1), [0, b])
                self.assertEqual(round_of(-1, b, 0, -1), [0, -b])

    def test_c_is_one(self):
        for a, d in itertools.product((-999, -998, -5, -1, 0, 1, 2, 6, 999, 1000), repeat=2):
            with self.subTest(a=a, d=d):
                self.assertEqual(round_of(a, a * d - 1, 1, d), [0, a + d])

    def test_c_is_minus_one(self):
        for a, d in itertools.product((-999, -998, -5, -1, 0, 1, 2, 6, 999, 1000), repeat=2):
            with self.subTest(a=a, d=d):
                self.assertEqual(round_of(a, 1 - a * d, -1, d), [0, -a - d])

    def test_c_at_its_ends_that_are_asked(self):
        self.assertEqual(round_of(1, 0, 2000, 1), [0, -1997])
        self.assertEqual(round_of(1, 0, -2000, 1), [0, 1997])
        for d in (1, 3, 811, 1001, 1999, 2001, -1, -3, -811, -1999, -2001):
            for steps in (0, -1, 3):
                self.check(turn(2000, d, steps))
                self.check(turn(-2000, d, steps))

    def test_a_and_d_together(self):
        for c in (5, -5, 13, -13, 1997, -1997):
            signs = set()
            for d in (2, -2, 3, -3):
                for steps in (-3, -1, 0, 1, 3):
                    numbers = turn(c, d, steps)
                    signs.add(sign_of(numbers[0] + numbers[3]))
                    self.check(numbers)
            self.assertTrue({-1, 1} <= signs)

    def test_a_and_d_together_are_zero(self):
        rows = ((0, -1, 1), (0, 1, -1), (2, -5, 1), (2, -1, 5), (2, 1, -5), (5, -2, 13), (-5, -2, 13), (5, 2, -13))
        for a, b, c in rows:
            self.check((a, b, c, -a))

    def test_d_is_zero(self):
        for a in (-1000000, -1, 0, 1, 1000000):
            with self.subTest(a=a):
                self.assertEqual(round_of(a, -1, 1, 0), [0, a])
                self.assertEqual(round_of(a, 1, -1, 0), [0, -a])

    def test_d_below_zero_and_beyond_c(self):
        for c in (2, 3, 8, 30, 499, 500):
            for rest in (1, c - 1):
                for turns in (-1000, -2, -1, 1, 2, 1000):
                    self.check(turn(c, rest + turns * c))
                    self.check(turn(-c, rest + turns * c))

    def test_numbers_at_their_ends(self):
        rows = (
            (1000000, 999999, 1, 1), (-1000000, 999999, 1, -1), (1000000, -999999, -1, 1),
            (-1000000, -999999, -1, -1), (1000000, 333333, 3, 1), (-1000000, 333333, 3, -1),
            (1, 333333, 3, 1000000), (-1, 333333, 3, -1000000), (1, -333333, -3, 1000000),
            (-1, -333333, -3, -1000000), (101, 1000000, 1, 9901), (101, -1000000, -1, 9901),
            (-3, 1000000, -1, 333333), (3, -1000000, 1, -333333), (1, 1000000, 0, 1), (-1, -1000000, 0, -1),
            turn(1999, 1000000), turn(1999, -1000000), turn(-1999, 1000000), turn(-1999, -1000000),
        )
        for numbers in rows:
            self.check(numbers)

    def test_c_at_the_ends_of_its_range(self):
        # Then the sum is known in closed form: (c - 1)(c - 2) / (12 c).
        self.assertEqual(round_of(1, 0, 1000000, 1), [0, -999997])
        self.assertEqual(round_of(1, 0, -1000000, 1), [0, 999997])


class WrongInputs(unittest.TestCase):
    def test_each_in_turn_not_in_its_range(self):
        for numbers in ((1, 0, 0, 1), (-1, 5, 0, -1), (2, 3, 5, 8), (0, -1, 1, 0), (1, 0, -2000, 1)):
            for place in range(4):
                for wrong in OUT_OF_RANGE:
                    row = list(numbers)
                    row[place] = wrong
                    with self.subTest(row=row):
                        self.assertEqual(round_of(*row), [-2])

    def test_not_in_range_though_the_rest_fits(self):
        rows = (
            (1, 1000001, 0, 1), (1, -1000001, 0, 1), (1, 0, 1000001, 1), (1, 0, -1000001, 1),
            (1, GREATEST_INT, 0, 1), (1, LEAST_INT, 0, 1), (1, 0, GREATEST_INT, 1), (1, 0, LEAST_INT, 1),
            (1000001, 1000000, 1, 1), (1, 1000000, 1, 1000001), (-1000001, -1, 1, 0), (0, -1, 1, 1000001),
            (GREATEST_INT, -1, 1, 0), (LEAST_INT, -1, 1, 0), (0, -1, 1, GREATEST_INT), (0, -1, 1, LEAST_INT),
        )
        for a, b, c, d in rows:
            with self.subTest(a=a, b=b, c=c, d=d):
                self.assertEqual(a * d - b * c, 1)
                self.assertEqual(round_of(a, b, c, d), [-2])

    def test_a_d_less_b_c_is_not_one(self):
        rows = (
            (0, 0, 0, 0, 0), (1, 1, 1, 1, 0), (2, 3, 4, 6, 0), (0, 1, 1, 0, -1), (1, 0, 5, -1, -1),
            (3, 5, 2, 3, -1), (2, 0, 5, 1, 2), (1, 0, 0, 2, 2), (4, 2, 5, 3, 2), (3, 1, 1, 1, 2),
            (1, 7, 0, -1, -1), (-1, 7, 0, 1, -1), (0, 7, 0, 1, 0), (1, 7, 0, 0, 0), (2, 7, 0, 2, 4),
            (1000000, 1000000, -1000000, 1000000, 2000000000000), (1, 1, 2000, 1, -1999),
            (1, -1, 2000, 1, 2001), (1000000, 0, 2000, 1000000, 1000000000000),
        )
        for a, b, c, d, less in rows:
            with self.subTest(a=a, b=b, c=c, d=d):
                self.assertEqual(a * d - b * c, less)
                self.assertEqual(round_of(a, b, c, d), [-3])

    def test_every_small_one(self):
        for a, b, c, d in itertools.product(range(-3, 4), repeat=4):
            if a * d - b * c != 1:
                with self.subTest(a=a, b=b, c=c, d=d):
                    self.assertEqual(round_of(a, b, c, d), [-3])

    def test_range_is_ahead_of_what_does_not_fit(self):
        for row in itertools.product((0, 1, 1000001, LEAST_INT, GREATEST_INT), repeat=4):
            a, b, c, d = row
            if max(row) > 1 or min(row) < 0:
                with self.subTest(row=row):
                    self.assertEqual(round_of(a, b, c, d), [-2])


if __name__ == "__main__":
    unittest.main()
