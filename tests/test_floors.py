"""Promise 5: floors (a, b, c, n), and what the document says ahead of it."""

import itertools
import math
import unittest
from fractions import Fraction

from sawteeth.teeth import floors

LEAST_INT = -2147483648
GREATEST_INT = 2147483647
TOO_GREAT = (1000001, 1000002, GREATEST_INT)
TOO_SMALL = (-1000001, -1000002, LEAST_INT)
WRONG_A = TOO_GREAT + TOO_SMALL
WRONG_C = TOO_GREAT + TOO_SMALL + (0, -1, -2, -1000000)
WRONG_N = TOO_GREAT + TOO_SMALL + (-1, -2, -1000000)


def floors_by_the_words(a, b, c, n):
    return sum(math.floor(Fraction(a * i + b, c)) for i in range(n))


class OrdinaryInputs(unittest.TestCase):
    def test_known_by_hand(self):
        # For 1, 0, 2 and 5: 0, 0, 1, 1 and 2. For -1, 0, 2 and 5: 0, -1, -1, -2 and -2.
        known = (
            (1, 0, 2, 5, 4), (-1, 0, 2, 5, -6), (1, 1, 2, 4, 4), (3, 1, 4, 4, 4), (-3, 1, 4, 4, -5),
            (0, 7, 2, 3, 9), (0, -7, 2, 3, -12), (2, 4, 6, 4, 3), (1, 0, 1, 101, 5050),
        )
        for a, b, c, n, answer in known:
            with self.subTest(a=a, b=b, c=c, n=n):
                self.assertEqual(floors(a, b, c, n), [0, answer])

    def test_every_small_one_against_the_words(self):
        for a, b, c, n in itertools.product(range(-6, 7), range(-6, 7), range(1, 7), (0, 1, 2, 3, 5, 8)):
            with self.subTest(a=a, b=b, c=c, n=n):
                self.assertEqual(floors(a, b, c, n), [0, floors_by_the_words(a, b, c, n)])

    def test_larger_ones_against_the_words(self):
        rows = (
            (355, 113, 226, 1000), (-355, 113, 226, 1000), (355, -113, 227, 999), (-355, -113, 227, 999),
            (999983, 1, 999979, 1500), (-999983, 12345, 7, 1500), (123456, -654321, 1000, 2000),
            (17, 500000, 999999, 2000), (-17, -500000, 999999, 2000), (6, 9, 15, 777),
        )
        for a, b, c, n in rows:
            with self.subTest(a=a, b=b, c=c, n=n):
                self.assertEqual(floors(a, b, c, n), [0, floors_by_the_words(a, b, c, n)])

    def test_two_corners_of_a_rectangle(self):
        # Without a common divisor, the whole points below the diagonal are half of those inside.
        for a, c in ((2, 3), (5, 8), (8, 5), (89, 144), (999, 1000), (9999, 10000)):
            with self.subTest(a=a, c=c):
                self.assertEqual(floors(a, 0, c, c), [0, (a - 1) * (c - 1) // 2])


class Edges(unittest.TestCase):
    def test_n_is_zero(self):
        for a, b, c in itertools.product((-1000000, -1, 0, 1, 1000000), (-1000000, 0, 1000000), (1, 2, 1000000)):
            with self.subTest(a=a, b=b, c=c):
                self.assertEqual(floors(a, b, c, 0), [0, 0])

    def test_n_is_one(self):
        for a in (-1000000, -7, 0, 7, 1000000):
            for b, c, answer in ((0, 1, 0), (7, 2, 3), (-7, 2, -4), (1, 1000000, 0), (-1, 1000000, -1), (-6, 2, -3)):
                with self.subTest(a=a, b=b, c=c):
                    self.assertEqual(floors(a, b, c, 1), [0, answer])

    def test_n_at_the_greatest_that_is_asked(self):
        for a, b, c in ((1, 0, 1), (3, -5, 7), (-3, 5, 7), (1000000, 1000000, 999999), (-1000000, -1000000, 999999)):
            with self.subTest(a=a, b=b, c=c):
                self.assertEqual(floors(a, b, c, 10000), [0, floors_by_the_words(a, b, c, 10000)])

    def test_n_at_the_end_of_its_range(self):
        self.assertEqual(floors(1, 0, 1, 1000000), [0, 999999 * 1000000 // 2])

    def test_c_is_one(self):
        for a, b, n in itertools.product((-1000000, -3, 0, 3, 1000000), (-1000000, -2, 0, 2, 1000000), (1, 2, 50)):
            with self.subTest(a=a, b=b, n=n):
                self.assertEqual(floors(a, b, 1, n), [0, a * n * (n - 1) // 2 + b * n])

    def test_c_at_the_end_of_its_range(self):
        for a, b in itertools.product((-1000000, -999999, -1, 0, 1, 999999, 1000000), repeat=2):
            with self.subTest(a=a, b=b):
                self.assertEqual(floors(a, b, 1000000, 30), [0, floors_by_the_words(a, b, 1000000, 30)])

    def test_a_and_b_at_their_ends(self):
        for a, b in itertools.product((-1000000, 0, 1000000), repeat=2):
            for c, n in ((1, 10000), (3, 100), (7, 100), (999999, 100), (1000000, 100)):
                with self.subTest(a=a, b=b, c=c, n=n):
                    self.assertEqual(floors(a, b, c, n), [0, floors_by_the_words(a, b, c, n)])

    def test_rounded_down_and_not_towards_zero(self):
        self.assertEqual(floors(0, -1, 2, 1), [0, -1])
        self.assertEqual(floors(0, -1, 2, 10), [0, -10])
        self.assertEqual(floors(0, -1, 1000000, 10000), [0, -10000])
        self.assertEqual(floors(-1, 0, 1000000, 10000), [0, -9999])

    def test_each_is_rounded_before_the_sum(self):
        self.assertEqual(floors(0, 1, 2, 10), [0, 0])
        self.assertEqual(floors(0, 3, 2, 10), [0, 10])

    def test_a_common_divisor_is_no_refusal(self):
        for a, b, c, n in ((2, 4, 6, 8), (0, 0, 5, 5), (10, 10, 10, 10), (-4, 2, 2, 4), (1000000, 0, 1000000, 3)):
            with self.subTest(a=a, b=b, c=c, n=n):
                self.assertEqual(floors(a, b, c, n), [0, floors_by_the_words(a, b, c, n)])


class WrongInputs(unittest.TestCase):
    RIGHT = ((1, 0, 1, 1), (-3, 5, 7, 0), (0, 0, 1000000, 10000), (1000000, -1000000, 2, 3))

    def check_place(self, place, wrong_numbers):
        for numbers in self.RIGHT:
            self.assertEqual(floors(*numbers)[0], 0)
            for wrong in wrong_numbers:
                row = list(numbers)
                row[place] = wrong
                with self.subTest(row=row):
                    self.assertEqual(floors(*row), [-2])

    def test_a_not_in_its_range(self):
        self.check_place(0, WRONG_A)

    def test_b_not_in_its_range(self):
        self.check_place(1, WRONG_A)

    def test_c_not_in_its_range(self):
        self.check_place(2, WRONG_C)

    def test_n_not_in_its_range(self):
        self.check_place(3, WRONG_N)

    def test_several_at_once(self):
        rows = itertools.product(
            (1, 1000001, LEAST_INT), (0, -1000001, GREATEST_INT), (1, 0, -1, 1000001, LEAST_INT), (1, -1, 1000001)
        )
        for row in rows:
            if row != (1, 0, 1, 1):
                with self.subTest(row=row):
                    self.assertEqual(floors(*row), [-2])


if __name__ == "__main__":
    unittest.main()
