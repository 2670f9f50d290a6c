"""Promise 8: when a point lies on a conic, count."""

import unittest

from finiteplanes.planes import count
from tests.helper import PRIMES, all_rows, conic_value, points_by_search, some_rows


def plain_count(p, c):
    return len([v for v in points_by_search(p) if conic_value(p, c, v) == 0])


def not_a_square(p):
    """The first number that isn't the square of another; p isn't 2."""
    squares = [a * a % p for a in range(p)]
    return [a for a in range(p) if a not in squares][0]


class CountTest(unittest.TestCase):
    def test_by_hand(self):
        # Modulo 2, x x + y z holds at (0, 0, 1), (0, 1, 0) and (1, 1, 1).
        self.assertEqual(count(2, [1, 0, 0, 0, 1, 0]), [3])
        # Modulo 3, x x + y y + z z holds at (1, 1, 1), (1, 1, 2), (1, 2, 1) and (1, 2, 2).
        self.assertEqual(count(3, [1, 0, 0, 1, 0, 1]), [4])
        # Modulo 2, x x + y y + z z is the square of x + y + z: a line.
        self.assertEqual(count(2, [1, 0, 0, 1, 0, 1]), [3])

    def test_all_zero(self):
        for p in PRIMES:
            self.assertEqual(count(p, [0] * 6), [p * p + p + 1])
        self.assertEqual(count(2, [0] * 6), [7])
        self.assertEqual(count(61, [0] * 6), [3783])

    def test_one_line_twice(self):
        for p in PRIMES:
            for place in [0, 3, 5]:
                self.assertEqual(count(p, [p - 1 if k == place else 0 for k in range(6)]), [p + 1])
            # (x + y + z) (x + y + z)
            self.assertEqual(count(p, [1, 2 % p, 2 % p, 1, 2 % p, 1]), [p + 1])

    def test_two_lines(self):
        for p in PRIMES:
            for place in [1, 2, 4]:
                self.assertEqual(count(p, [p - 1 if k == place else 0 for k in range(6)]), [2 * p + 1])
            # (x + y) (x + z)
            self.assertEqual(count(p, [1, 1, 1, 0, 1, 0]), [2 * p + 1])

    def test_a_point_alone(self):
        self.assertEqual(count(2, [1, 1, 0, 1, 0, 0]), [1])
        for p in PRIMES[1:]:
            rest = p - not_a_square(p)
            self.assertEqual(count(p, [1, 0, 0, rest, 0, 0]), [1])
            self.assertEqual(count(p, [1, 0, 0, 0, 0, rest]), [1])
            self.assertEqual(count(p, [0, 0, 0, 1, 0, rest]), [1])

    def test_a_conic_of_its_own_many_points(self):
        for p in PRIMES:
            self.assertEqual(count(p, [0, 0, 1, p - 1, 0, 0]), [p + 1])
            self.assertEqual(count(p, [1, 0, 0, 0, p - 1, 0]), [p + 1])
            self.assertEqual(count(p, [0, p - 1, 0, 0, 0, 1]), [p + 1])
            self.assertEqual(count(p, [0, 1, 1, 0, 1, 0]), [p + 1])

    def test_multiples_count_the_same(self):
        for c in some_rows(7, 6, 20):
            for k in range(1, 7):
                self.assertEqual(count(7, [k * a % 7 for a in c]), count(7, c))

    def test_every_conic_of_the_smallest_planes(self):
        for p in [2, 3]:
            for c in all_rows(p, 6):
                self.assertEqual(count(p, c), [plain_count(p, c)], (p, c))

    def test_some_conics_of_every_prime(self):
        for p in PRIMES:
            for c in some_rows(p, 6, 5):
                self.assertEqual(count(p, c), [plain_count(p, c)], (p, c))

    def test_largest_plane(self):
        self.assertEqual(count(61, [60] * 6), [plain_count(61, [60] * 6)])
        self.assertEqual(count(61, [1, 2, 3, 4, 5, 6]), [62])


if __name__ == "__main__":
    unittest.main()
