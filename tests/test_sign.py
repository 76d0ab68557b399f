"""Promise 2: sign (h, n), and what the document says ahead of it."""

import itertools
import math
import unittest

from sawteeth.teeth import sign

LEAST_INT = -2147483648
GREATEST_INT = 2147483647


def remainder(x, n):
    rest = abs(x) - n * (abs(x) // n)
    return n - rest if x < 0 and rest != 0 else rest


def sign_by_the_words(h, n):
    row = [remainder(h * i, n) for i in range(n)]
    pairs = sum(1 for first, second in itertools.combinations(row, 2) if first > second)
    return 1 if pairs % 2 == 0 else 0


def jacobi(h, n):
    """The Jacobi symbol of h over n, for odd n without a common divisor with h."""
    result = 1
    h = h % n
    while h != 0:
        while h % 2 == 0:
            h = h // 2
            if n % 8 in (3, 5):
                result = -result
        h, n = n, h
        if h % 4 == 3 and n % 4 == 3:
            result = -result
        h = h % n
    return result


class OrdinaryInputs(unittest.TestCase):
    def test_known_by_hand(self):
        # By 5, the row of 2 is 0 2 4 1 3: the pairs 2 1, 4 1 and 4 3 have the greater one first.
        known = (
            (1, 3, 1), (2, 3, 0), (1, 4, 1), (3, 4, 0), (1, 5, 1), (2, 5, 0), (3, 5, 0), (4, 5, 1),
            (1, 6, 1), (5, 6, 1), (2, 7, 1), (3, 7, 0), (6, 7, 0), (3, 8, 0), (5, 8, 1), (7, 8, 0),
        )
        for h, n, answer in known:
            with self.subTest(h=h, n=n):
                self.assertEqual(sign(h, n), [answer])

    def test_every_small_pair_against_the_words(self):
        for n in range(1, 31):
            for h in range(-35, 66):
                expected = [sign_by_the_words(h, n)] if math.gcd(h, n) == 1 else [-3]
                with self.subTest(h=h, n=n):
                    self.assertEqual(sign(h, n), expected)

    def test_larger_pairs_against_the_words(self):
        for n in (97, 100, 101, 127, 128, 144, 169, 210, 225, 243, 247, 248, 249):
            for h in (2, 3, 7, 11, 55, 89, n // 2 + 1, n - 2, n - 1, -3, -13, 123457, -654321):
                expected = [sign_by_the_words(h, n)] if math.gcd(h, n) == 1 else [-3]
                with self.subTest(h=h, n=n):
                    self.assertEqual(sign(h, n), expected)

    def test_odd_n_by_zolotarev(self):
        # Zolotarev and Frobenius: for odd n the row's sign is the Jacobi symbol.
        for n in range(1, 250, 2):
            for h in range(1, n + 1):
                if math.gcd(h, n) == 1:
                    with self.subTest(h=h, n=n):
                        self.assertEqual(sign(h, n), [1 if jacobi(h, n) == 1 else 0])


class Edges(unittest.TestCase):
    def test_n_is_one(self):
        for h in (0, 1, -1, 2, -7, 999999, -999999, 1000000, -1000000):
            with self.subTest(h=h):
                self.assertEqual(sign(h, 1), [1])

    def test_n_is_two(self):
        for h in (1, -1, 3, -3, 999999, -999999):
            with self.subTest(h=h):
                self.assertEqual(sign(h, 2), [1])

    def test_h_is_one(self):
        for n in range(1, 251):
            with self.subTest(n=n):
                self.assertEqual(sign(1, n), [1])

    def test_h_is_minus_one(self):
        # Behind the 0, the row falls: every pair there has the greater one first.
        for n in range(1, 251):
            with self.subTest(n=n):
                self.assertEqual(sign(-1, n), [1 if (n - 1) * (n - 2) // 2 % 2 == 0 else 0])

    def test_h_counts_by_its_remainder(self):
        for h, n in ((1, 3), (2, 3), (3, 8), (5, 8), (7, 30), (81, 250), (2, 249)):
            for turns in (-3000, -2, -1, 1, 2, 3000):
                with self.subTest(h=h, n=n, turns=turns):
                    self.assertEqual(sign(h + turns * n, n), [sign_by_the_words(h, n)])

    def test_h_at_its_ends(self):
        for n in (3, 7, 9, 11, 99, 101, 199, 247, 249):
            for h in (1000000, -1000000):
                with self.subTest(h=h, n=n):
                    self.assertEqual(sign(h, n), [sign_by_the_words(h, n)])

    def test_n_at_the_greatest_that_is_asked(self):
        for h in (1, -1, 3, 7, 81, 123, 249, 251, -3, -249, 999999, -999999):
            with self.subTest(h=h):
                self.assertEqual(sign(h, 250), [sign_by_the_words(h, 250)])

    def test_n_at_the_end_of_its_range(self):
        self.assertEqual(sign(1, 1000000), [1])
        self.assertEqual(sign(-1, 1000000), [0])


class WrongInputs(unittest.TestCase):
    def test_n_not_in_its_range(self):
        for n in (0, -1, -2, -3, -1000000, -1000001, LEAST_INT, 1000001, 1000003, GREATEST_INT):
            for h in (1, -1, 7, 1000000, -1000000):
                with self.subTest(h=h, n=n):
                    self.assertEqual(sign(h, n), [-2])

    def test_h_not_in_its_range(self):
        for h in (1000001, 1000002, -1000001, -1000002, LEAST_INT, GREATEST_INT):
            for n in (1, 3, 7, 249, 250):
                with self.subTest(h=h, n=n):
                    self.assertEqual(sign(h, n), [-2])

    def test_neither_in_its_range(self):
        for h in (1000001, -1000001, LEAST_INT, GREATEST_INT):
            for n in (0, -1, 1000001, LEAST_INT, GREATEST_INT):
                with self.subTest(h=h, n=n):
                    self.assertEqual(sign(h, n), [-2])

    def test_common_divisor(self):
        pairs = (
            (2, 2), (-2, 2), (2, 4), (4, 2), (6, 9), (-6, 9), (9, 6), (35, 49), (199, 199),
            (5, 250), (-250, 250), (1000000, 250), (-1000000, 250), (1000000, 2), (999999, 3),
        )
        for h, n in pairs:
            with self.subTest(h=h, n=n):
                self.assertEqual(sign(h, n), [-3])

    def test_h_is_zero(self):
        for n in (2, 3, 4, 17, 249, 250):
            with self.subTest(n=n):
                self.assertEqual(sign(0, n), [-3])

    def test_range_is_ahead_of_common_divisor(self):
        pairs = (
            (0, 0), (2, 0), (4, -2), (0, -5), (2, 1000002), (0, 1000001), (1000002, 2), (-1000002, 2),
            (1000005, 250), (LEAST_INT, 2), (2, LEAST_INT), (GREATEST_INT, GREATEST_INT),
            (LEAST_INT, LEAST_INT),
        )
        for h, n in pairs:
            with self.subTest(h=h, n=n):
                self.assertNotEqual(math.gcd(h, n), 1)
                self.assertEqual(sign(h, n), [-2])


if __name__ == "__main__":
    unittest.main()
