"""Promise 1: six (h, k), and what the document says ahead of it."""

import math
import unittest
from fractions import Fraction

from sawteeth.teeth import six

LEAST_INT = -2147483648
GREATEST_INT = 2147483647


def tooth(x, k):
    rest = x - k * math.floor(Fraction(x, k))
    if rest == 0:
        return Fraction(0)
    return Fraction(rest, k) - Fraction(1, 2)


def six_by_the_words(h, k):
    whole_sum = sum((tooth(i, k) * tooth(h * i, k) for i in range(k)), Fraction(0))
    answer = 6 * k * whole_sum
    if answer.denominator != 1:
        raise ArithmeticError(f"not whole: h = {h}, k = {k}")
    return answer.numerator


class OrdinaryInputs(unittest.TestCase):
    def test_known_by_hand(self):
        known = (
            (1, 1, 0), (1, 2, 0), (1, 3, 1), (2, 3, -1), (1, 4, 3), (3, 4, -3),
            (1, 5, 6), (2, 5, 0), (3, 5, 0), (4, 5, -6), (1, 7, 15), (2, 7, 3), (3, 7, -3),
        )
        for h, k, answer in known:
            with self.subTest(h=h, k=k):
                self.assertEqual(six(h, k), [0, answer])

    def test_every_small_pair_against_the_words(self):
        for k in range(1, 41):
            for h in range(-45, 86):
                expected = [0, six_by_the_words(h, k)] if math.gcd(h, k) == 1 else [-3]
                with self.subTest(h=h, k=k):
                    self.assertEqual(six(h, k), expected)

    def test_larger_pairs_against_the_words(self):
        pairs = (
            (55, 89), (89, 144), (377, 610), (500, 999), (-613, 1024), (1234, 1777),
            (987, 1597), (-987, 1597), (123456, 1801), (-654321, 1802), (1000, 1999), (3, 1999),
        )
        for h, k in pairs:
            with self.subTest(h=h, k=k):
                self.assertEqual(six(h, k), [0, six_by_the_words(h, k)])

    def test_h_is_one(self):
        # Then the sum is known in closed form: (k - 1)(k - 2) / (12 k).
        for k in range(1, 301):
            with self.subTest(k=k):
                self.assertEqual(six(1, k), [0, (k - 1) * (k - 2) // 2])

    def test_turns_of_h_and_k(self):
        # Dedekind: 12 h k (sum of h and k, and of k and h) = h h + k k + 1 - 3 h k.
        for h, k in ((2, 3), (5, 8), (34, 55), (121, 1000), (997, 1000), (1597, 1999), (1999, 2000)):
            with self.subTest(h=h, k=k):
                both = 2 * h * six(h, k)[1] + 2 * k * six(k, h)[1]
                self.assertEqual(both, h * h + k * k + 1 - 3 * h * k)


class Edges(unittest.TestCase):
    def test_k_is_one(self):
        for h in (0, 1, -1, 2, -7, 999999, -999999, 1000000, -1000000):
            with self.subTest(h=h):
                self.assertEqual(six(h, 1), [0, 0])

    def test_k_is_two(self):
        for h in (1, -1, 3, 999999, -999999):
            with self.subTest(h=h):
                self.assertEqual(six(h, 2), [0, 0])

    def test_h_below_zero_turns_the_answer_round(self):
        for h, k in ((1, 3), (3, 8), (7, 30), (811, 2000)):
            with self.subTest(h=h, k=k):
                self.assertNotEqual(six(h, k), [0, 0])
                self.assertEqual(six(-h, k), [0, -six(h, k)[1]])

    def test_h_beyond_k_counts_by_its_remainder(self):
        for h, k in ((1, 3), (3, 8), (7, 30), (811, 2000)):
            for turns in (-400, -1, 1, 2, 400):
                with self.subTest(h=h, k=k, turns=turns):
                    self.assertEqual(six(h + turns * k, k), six(h, k))

    def test_h_at_its_ends(self):
        for k in (3, 7, 9, 11, 999, 1997, 1999):
            for h in (1000000, -1000000):
                with self.subTest(h=h, k=k):
                    self.assertEqual(six(h, k), [0, six_by_the_words(h, k)])

    def test_k_at_the_greatest_that_is_asked(self):
        self.assertEqual(six(1, 2000), [0, 1997001])
        self.assertEqual(six(-1, 2000), [0, -1997001])
        for h in (3, 811, 1001, 1999, 2001, -3, 999999, -999999):
            with self.subTest(h=h):
                self.assertEqual(six(h, 2000), [0, six_by_the_words(h, 2000)])

    def test_k_at_the_end_of_its_range(self):
        self.assertEqual(six(1, 1000000), [0, 999999 * 999998 // 2])


class WrongInputs(unittest.TestCase):
    def test_k_not_in_its_range(self):
        for k in (0, -1, -2, -3, -1000000, -1000001, LEAST_INT, 1000001, 1000003, GREATEST_INT):
            for h in (1, -1, 7, 1000000, -1000000):
                with self.subTest(h=h, k=k):
                    self.assertEqual(six(h, k), [-2])

    def test_h_not_in_its_range(self):
        for h in (1000001, 1000002, -1000001, -1000002, LEAST_INT, GREATEST_INT):
            for k in (1, 3, 7, 1999, 2000):
                with self.subTest(h=h, k=k):
                    self.assertEqual(six(h, k), [-2])

    def test_neither_in_its_range(self):
        for h in (1000001, -1000001, LEAST_INT, GREATEST_INT):
            for k in (0, -1, 1000001, LEAST_INT, GREATEST_INT):
                with self.subTest(h=h, k=k):
                    self.assertEqual(six(h, k), [-2])

    def test_common_divisor(self):
        pairs = (
            (2, 2), (-2, 2), (2, 4), (4, 2), (6, 9), (-6, 9), (9, 6), (35, 49), (1999, 1999),
            (5, 2000), (-2000, 2000), (1000000, 2000), (-1000000, 2000), (1000000, 2), (999999, 3),
        )
        for h, k in pairs:
            with self.subTest(h=h, k=k):
                self.assertEqual(six(h, k), [-3])

    def test_h_is_zero(self):
        for k in (2, 3, 4, 17, 1999, 2000):
            with self.subTest(k=k):
                self.assertEqual(six(0, k), [-3])

    def test_range_is_ahead_of_common_divisor(self):
        pairs = (
            (0, 0), (2, 0), (4, -2), (0, -5), (2, 1000002), (0, 1000001), (1000002, 2), (-1000002, 2),
            (1000005, 2000), (LEAST_INT, 2), (2, LEAST_INT), (GREATEST_INT, GREATEST_INT),
            (LEAST_INT, LEAST_INT),
        )
        for h, k in pairs:
            with self.subTest(h=h, k=k):
                self.assertNotEqual(math.gcd(h, k), 1)
                self.assertEqual(six(h, k), [-2])


if __name__ == "__main__":
    unittest.main()
