"""Promise 1: normal."""

import unittest

from finiteplanes.planes import normal
from tests.helper import PRIMES, points_by_search


class NormalTest(unittest.TestCase):
    def test_rows_in_their_one_form_stay(self):
        self.assertEqual(normal(2, [1, 1, 1]), [1, 1, 1, 1])
        self.assertEqual(normal(7, [1, 6, 0]), [1, 1, 6, 0])
        self.assertEqual(normal(7, [0, 1, 5]), [1, 0, 1, 5])
        self.assertEqual(normal(61, [1, 0, 60]), [1, 1, 0, 60])
        self.assertEqual(normal(61, [0, 0, 1]), [1, 0, 0, 1])

    def test_first_number_divides(self):
        self.assertEqual(normal(3, [2, 1, 0]), [1, 1, 2, 0])
        self.assertEqual(normal(5, [2, 3, 4]), [1, 1, 4, 2])
        self.assertEqual(normal(7, [3, 1, 2]), [1, 1, 5, 3])
        self.assertEqual(normal(61, [2, 1, 0]), [1, 1, 31, 0])
        self.assertEqual(normal(61, [60, 60, 1]), [1, 1, 1, 60])

    def test_second_number_divides(self):
        self.assertEqual(normal(3, [0, 2, 2]), [1, 0, 1, 1])
        self.assertEqual(normal(11, [0, 4, 1]), [1, 0, 1, 3])
        self.assertEqual(normal(61, [0, 60, 1]), [1, 0, 1, 60])

    def test_third_number_divides(self):
        self.assertEqual(normal(3, [0, 0, 2]), [1, 0, 0, 1])
        self.assertEqual(normal(13, [0, 0, 12]), [1, 0, 0, 1])
        self.assertEqual(normal(61, [0, 0, 37]), [1, 0, 0, 1])

    def test_a_later_one_does_not_make_it_the_one_form(self):
        self.assertEqual(normal(5, [3, 1, 1]), [1, 1, 2, 2])
        self.assertEqual(normal(5, [0, 3, 1]), [1, 0, 1, 2])

    def test_all_zero(self):
        for p in PRIMES:
            self.assertEqual(normal(p, [0, 0, 0]), [0])

    def test_every_row_of_the_smallest_plane(self):
        for x in range(2):
            for y in range(2):
                for z in range(2):
                    expected = [1, x, y, z] if x + y + z > 0 else [0]
                    self.assertEqual(normal(2, [x, y, z]), expected)

    def test_every_multiple_of_every_point(self):
        for p in PRIMES:
            for v in points_by_search(p):
                for k in range(1, p):
                    multiple = [a * k % p for a in v]
                    self.assertEqual(normal(p, multiple), [1] + v, (p, multiple))


if __name__ == "__main__":
    unittest.main()
