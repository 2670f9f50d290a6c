"""Promise 4: on."""

import unittest

from finiteplanes.planes import on
from tests.helper import PRIMES, all_rows, points_by_search, some_rows


def by_the_sum(p, v, l):
    return [1] if (l[0] * v[0] + l[1] * v[1] + l[2] * v[2]) % p == 0 else [0]


class OnTest(unittest.TestCase):
    def test_by_hand(self):
        self.assertEqual(on(7, [1, 2, 3], [0, 1, 4]), [1])
        self.assertEqual(on(7, [1, 4, 6], [0, 1, 4]), [1])
        self.assertEqual(on(7, [1, 2, 4], [0, 1, 4]), [0])
        self.assertEqual(on(7, [1, 2, 3], [1, 1, 4]), [0])
        self.assertEqual(on(2, [1, 0, 1], [1, 1, 1]), [1])
        self.assertEqual(on(2, [1, 1, 1], [1, 1, 1]), [0])
        self.assertEqual(on(61, [1, 60, 1], [1, 37, 36]), [1])
        self.assertEqual(on(61, [1, 60, 2], [1, 37, 36]), [0])

    def test_a_sum_that_is_zero_without_reckoning_modulo_p(self):
        for p in PRIMES:
            self.assertEqual(on(p, [0, 0, 1], [1, 1, 0]), [1])
            self.assertEqual(on(p, [1, 0, 0], [0, 1, p - 1]), [1])

    def test_each_place_by_itself(self):
        for p in PRIMES:
            corners = [[1, 0, 0], [0, 1, 0], [0, 0, 1]]
            for u in corners:
                for v in corners:
                    self.assertEqual(on(p, u, v), [0] if u == v else [1])

    def test_every_point_and_line_of_small_planes(self):
        for p in [2, 3, 5, 7]:
            points = points_by_search(p)
            for l in points:
                answers = [on(p, v, l) for v in points]
                self.assertEqual(answers, [by_the_sum(p, v, l) for v in points])
                # So many points lie on each line.
                self.assertEqual(answers.count([1]), p + 1)

    def test_every_row_of_the_smallest_planes(self):
        for p in [2, 3]:
            for v in all_rows(p, 3):
                for l in all_rows(p, 3):
                    self.assertEqual(on(p, v, l), by_the_sum(p, v, l), (p, v, l))

    def test_zero_rows(self):
        for p in PRIMES:
            self.assertEqual(on(p, [0, 0, 0], [0, 0, 0]), [1])
            self.assertEqual(on(p, [0, 0, 0], [1, p - 1, 1]), [1])
            self.assertEqual(on(p, [1, p - 1, 1], [0, 0, 0]), [1])

    def test_rows_not_in_their_one_form(self):
        self.assertEqual(on(7, [2, 4, 6], [0, 3, 5]), [1])
        self.assertEqual(on(7, [2, 4, 5], [0, 3, 5]), [0])
        for p in [5, 61]:
            for v, l in [([1, 2, 3], [1, 1, p - 1]), ([1, 2, 4], [1, 1, p - 1])]:
                for k in range(1, p):
                    self.assertEqual(on(p, [k * a % p for a in v], l), on(p, v, l))
                    self.assertEqual(on(p, v, [k * a % p for a in l]), on(p, v, l))

    def test_every_prime_against_the_sum(self):
        for p in PRIMES:
            for v, l in zip(some_rows(p, 3, 300), some_rows(p, 3, 600)[300:]):
                self.assertEqual(on(p, v, l), by_the_sum(p, v, l), (p, v, l))

    def test_lines_of_the_largest_plane(self):
        points = points_by_search(61)
        for l in [[0, 0, 1], [0, 1, 60], [1, 0, 0], [1, 37, 36], [1, 60, 60]]:
            self.assertEqual([on(61, v, l) for v in points].count([1]), 62)


if __name__ == "__main__":
    unittest.main()
