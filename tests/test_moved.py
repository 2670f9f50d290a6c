"""Promise 5: what a matrix moves a row to, moved."""

import unittest

from finiteplanes.planes import moved
from tests.helper import PRIMES, all_rows, expected_normal, points_by_search, some_rows

SAME = [1, 0, 0, 0, 1, 0, 0, 0, 1]


def by_the_sums(p, m, v):
    """The matrix's columns, each as often as v says, one upon another."""
    columns = [m[0::3], m[1::3], m[2::3]]
    sums = [0, 0, 0]
    for column, times in zip(columns, v):
        sums = [a + times * b for a, b in zip(sums, column)]
    return expected_normal(p, sums)


class MovedTest(unittest.TestCase):
    def test_by_hand(self):
        # (1 + 4 + 9, 4 + 10 + 18, 7 + 16 + 27) is (14, 32, 50), modulo 11 (3, 10, 6); a third of it is (1, 7, 2).
        self.assertEqual(moved(11, [1, 2, 3, 4, 5, 6, 7, 8, 9], [1, 2, 3]), [1, 1, 7, 2])
        # (14, 32, 50) modulo 61, times 48, for 14 times 48 is 672 and 671 is 11 times 61.
        self.assertEqual(moved(61, [1, 2, 3, 4, 5, 6, 7, 8, 9], [1, 2, 3]), [1, 1, 11, 21])
        self.assertEqual(moved(2, [1, 1, 0, 0, 1, 1, 1, 0, 0], [1, 1, 1]), [1, 0, 0, 1])
        self.assertEqual(moved(2, [1, 1, 1, 0, 1, 1, 0, 0, 1], [0, 1, 1]), [1, 0, 0, 1])

    def test_every_point_stays(self):
        for p in PRIMES:
            for v in points_by_search(p):
                self.assertEqual(moved(p, SAME, v), [1] + v)
                self.assertEqual(moved(p, [(p - 1) * a for a in SAME], v), [1] + v)

    def test_nine_zeros(self):
        for p in PRIMES:
            for v in [[0, 0, 0], [1, 0, 0], [0, 1, p - 1], [0, 0, 1], [1, p - 1, p - 1]]:
                self.assertEqual(moved(p, [0] * 9, v), [0])

    def test_a_row_of_zeros_is_moved_to_zeros(self):
        for p in PRIMES:
            self.assertEqual(moved(p, SAME, [0, 0, 0]), [0])
            self.assertEqual(moved(p, [p - 1] * 9, [0, 0, 0]), [0])

    def test_determinant_zero(self):
        # The rows are (1, 2, 3), twice it and 0 times it, modulo 5; (1, 1, 4) lies on it, (1, 1, 3) doesn't.
        matrix = [1, 2, 3, 2, 4, 1, 0, 0, 0]
        self.assertEqual(moved(5, matrix, [1, 1, 4]), [0])
        self.assertEqual(moved(5, matrix, [1, 1, 3]), [1, 1, 2, 0])
        for p in PRIMES:
            self.assertEqual(moved(p, [1, 0, 0, 0, 1, 0, 0, 0, 0], [0, 0, p - 1]), [0])
            self.assertEqual(moved(p, [1, 0, 0, 0, 1, 0, 0, 0, 0], [0, p - 1, p - 1]), [1, 0, 1, 0])
            self.assertEqual(moved(p, [1, p - 1, 0] * 3, [1, 1, 0]), [0])
            self.assertEqual(moved(p, [1, p - 1, 0] * 3, [1, 0, 0]), [1, 1, 1, 1])

    def test_rows_not_columns(self):
        for p in PRIMES:
            self.assertEqual(moved(p, [1, 1, 0, 0, 1, 0, 0, 0, 1], [0, 1, 0]), [1, 1, 1, 0])
            self.assertEqual(moved(p, [1, 1, 0, 0, 1, 0, 0, 0, 1], [1, 0, 0]), [1, 1, 0, 0])
            self.assertEqual(moved(p, [0, 1, 0, 0, 0, 1, 1, 0, 0], [1, 0, 0]), [1, 0, 0, 1])
            self.assertEqual(moved(p, [0, 1, 0, 0, 0, 1, 1, 0, 0], [0, 1, 0]), [1, 1, 0, 0])

    def test_each_place_of_the_matrix_by_itself(self):
        for p in PRIMES:
            for place in range(9):
                matrix = [p - 1 if k == place else 0 for k in range(9)]
                for corner in range(3):
                    v = [1 if k == corner else 0 for k in range(3)]
                    image = [1 if k == place // 3 else 0 for k in range(3)]
                    expected = [1] + image if corner == place % 3 else [0]
                    self.assertEqual(moved(p, matrix, v), expected)

    def test_results_are_divided(self):
        self.assertEqual(moved(7, [3, 0, 0, 0, 1, 0, 0, 0, 2], [1, 1, 1]), [1, 1, 5, 3])
        self.assertEqual(moved(7, [0, 0, 0, 0, 3, 0, 0, 0, 1], [1, 1, 1]), [1, 0, 1, 5])
        self.assertEqual(moved(61, [2, 0, 0, 0, 1, 0, 0, 0, 0], [1, 1, 1]), [1, 1, 31, 0])

    def test_every_matrix_and_row_of_the_smallest_plane(self):
        for m in all_rows(2, 9):
            for v in all_rows(2, 3):
                self.assertEqual(moved(2, m, v), by_the_sums(2, m, v), (m, v))

    def test_every_row_by_some_matrices(self):
        for p in [3, 5]:
            for m in some_rows(p, 9, 60):
                for v in all_rows(p, 3):
                    self.assertEqual(moved(p, m, v), by_the_sums(p, m, v), (p, m, v))

    def test_every_prime_against_the_sums(self):
        for p in PRIMES:
            for m, v in zip(some_rows(p, 9, 200), some_rows(p, 3, 200)):
                self.assertEqual(moved(p, m, v), by_the_sums(p, m, v), (p, m, v))


if __name__ == "__main__":
    unittest.main()
