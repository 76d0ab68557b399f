"""Promise 3: corner (a, b, c), and what the document says ahead of it."""

import itertools
import unittest
from fractions import Fraction

from sawteeth.teeth import corner

LEAST_INT = -2147483648
GREATEST_INT = 2147483647
WRONG = (0, -1, -2, -25, -1000, -1001, LEAST_INT, 1001, 1002, 1000000, 1000001, GREATEST_INT)


def corner_by_the_words(a, b, c):
    points = 0
    for x, y, z in itertools.product(range(a), range(b), range(c)):
        if 0 < Fraction(x, a) + Fraction(y, b) + Fraction(z, c) < 1:
            points += 1
    return points


class OrdinaryInputs(unittest.TestCase):
    def test_known_by_hand(self):
        known = (
            (1, 1, 1, 0), (1, 1, 2, 1), (1, 2, 2, 2), (2, 2, 2, 3), (1, 2, 3, 4), (1, 3, 3, 5), (3, 3, 3, 9),
        )
        for a, b, c, answer in known:
            with self.subTest(a=a, b=b, c=c):
                self.assertEqual(corner(a, b, c), [answer])

    def test_every_small_triple_against_the_words(self):
        for a, b, c in itertools.product(range(1, 9), repeat=3):
            with self.subTest(a=a, b=b, c=c):
                self.assertEqual(corner(a, b, c), [corner_by_the_words(a, b, c)])

    def test_larger_triples_against_the_words(self):
        triples = (
            (9, 10, 11), (10, 15, 25), (7, 11, 13), (12, 18, 24), (25, 3, 8), (2, 25, 24), (23, 19, 5),
            (16, 20, 24), (21, 14, 6), (24, 25, 23),
        )
        for a, b, c in triples:
            with self.subTest(a=a, b=b, c=c):
                self.assertEqual(corner(a, b, c), [corner_by_the_words(a, b, c)])

    def test_three_alike(self):
        # Then x, y and z together are to be below a: the points of a pyramid, less the one at 0.
        for a in range(1, 41):
            with self.subTest(a=a):
                self.assertEqual(corner(a, a, a), [a * (a + 1) * (a + 2) // 6 - 1])


class Edges(unittest.TestCase):
    def test_all_one(self):
        self.assertEqual(corner(1, 1, 1), [0])

    def test_two_are_one(self):
        for a in range(1, 26):
            with self.subTest(a=a):
                self.assertEqual(corner(a, 1, 1), [a - 1])
                self.assertEqual(corner(1, a, 1), [a - 1])
                self.assertEqual(corner(1, 1, a), [a - 1])

    def test_one_is_one(self):
        for a, b in ((2, 2), (2, 3), (5, 5), (4, 6), (24, 25), (25, 25)):
            expected = [corner_by_the_words(a, b, 1)]
            with self.subTest(a=a, b=b):
                self.assertEqual(corner(a, b, 1), expected)
                self.assertEqual(corner(a, 1, b), expected)
                self.assertEqual(corner(1, a, b), expected)

    def test_just_one_is_not_below_one(self):
        for a, b, c, answer in ((2, 2, 2, 3), (3, 3, 3, 9), (2, 3, 6, 15), (2, 4, 4, 12), (4, 4, 2, 12)):
            points = itertools.product(range(a), range(b), range(c))
            sums = [Fraction(x, a) + Fraction(y, b) + Fraction(z, c) for x, y, z in points]
            with self.subTest(a=a, b=b, c=c):
                self.assertIn(1, sums)
                self.assertEqual(corner(a, b, c), [answer])
                self.assertEqual(corner_by_the_words(a, b, c), answer)

    def test_another_order(self):
        for numbers in ((2, 3, 6), (1, 4, 9), (5, 7, 11), (8, 8, 3), (25, 24, 23), (1, 25, 10)):
            expected = [corner_by_the_words(*numbers)]
            for order in itertools.permutations(numbers):
                with self.subTest(order=order):
                    self.assertEqual(corner(*order), expected)

    def test_a_common_divisor_is_no_refusal(self):
        for a, b, c in ((2, 4, 6), (10, 10, 10), (5, 25, 15), (3, 9, 4)):
            with self.subTest(a=a, b=b, c=c):
                self.assertEqual(corner(a, b, c), [corner_by_the_words(a, b, c)])

    def test_the_greatest_that_is_asked(self):
        self.assertEqual(corner(25, 25, 25), [2924])
        self.assertEqual(corner_by_the_words(25, 25, 25), 2924)

    def test_the_end_of_the_range(self):
        self.assertEqual(corner(1000, 1, 1), [999])
        self.assertEqual(corner(1, 1000, 1), [999])
        self.assertEqual(corner(1, 1, 1000), [999])
        self.assertEqual(corner(1000, 1000, 1000), [1000 * 1001 * 1002 // 6 - 1])


class WrongInputs(unittest.TestCase):
    def test_each_in_turn(self):
        for wrong in WRONG:
            for right in (1, 2, 25):
                for place in range(3):
                    numbers = [right] * 3
                    numbers[place] = wrong
                    with self.subTest(numbers=numbers):
                        self.assertEqual(corner(*numbers), [-2])

    def test_two_at_once(self):
        for first, second in itertools.product(WRONG, repeat=2):
            for numbers in ((first, second, 5), (first, 5, second), (5, first, second)):
                with self.subTest(numbers=numbers):
                    self.assertEqual(corner(*numbers), [-2])

    def test_all_at_once(self):
        for numbers in itertools.product(WRONG, repeat=3):
            with self.subTest(numbers=numbers):
                self.assertEqual(corner(*numbers), [-2])


if __name__ == "__main__":
    unittest.main()
