"""Promise 9: polar."""

import unittest

from finiteplanes.planes import polar
from tests.helper import (PRIMES, all_rows, conic_points, conic_value, expected_normal, lies_on, points_by_search,
                          some_rows)

CORNERS = [[1, 0, 0], [0, 1, 0], [0, 0, 1]]

# By each of the six numbers alone, with 1 for it: what the corners are moved to.
PLACES = [
    [[2, 0, 0], [0, 0, 0], [0, 0, 0]],
    [[0, 1, 0], [1, 0, 0], [0, 0, 0]],
    [[0, 0, 1], [0, 0, 0], [1, 0, 0]],
    [[0, 0, 0], [0, 2, 0], [0, 0, 0]],
    [[0, 0, 0], [0, 0, 1], [0, 1, 0]],
    [[0, 0, 0], [0, 0, 0], [0, 0, 2]],
]


def by_sums(p, c, v):
    """What putting a corner to v adds to the conic's sum, beside the sums of both: the numbers of the polar."""
    row = []
    for corner in CORNERS:
        both = [a + b for a, b in zip(v, corner)]
        row.append((conic_value(p, c, both) - conic_value(p, c, v) - conic_value(p, c, corner)) % p)
    return expected_normal(p, row)


class PolarTest(unittest.TestCase):
    def test_by_hand(self):
        # The matrix (2, 2, 3; 2, 8, 5; 3, 5, 12) moves (1, 1, 1) to (7, 15, 20).
        self.assertEqual(polar(11, [1, 2, 3, 4, 5, 6], [1, 1, 1]), [1, 1, 10, 6])
        self.assertEqual(polar(61, [1, 2, 3, 4, 5, 6], [1, 1, 1]), [1, 1, 37, 29])
        # Modulo 2 the matrix is (0, 1, 1; 1, 0, 1; 1, 1, 0).
        self.assertEqual(polar(2, [1, 1, 1, 1, 1, 1], [1, 0, 0]), [1, 0, 1, 1])
        self.assertEqual(polar(2, [1, 1, 1, 1, 1, 1], [1, 1, 0]), [1, 1, 1, 0])
        self.assertEqual(polar(2, [1, 1, 1, 1, 1, 1], [1, 1, 1]), [0])

    def test_each_number_by_itself(self):
        for p in PRIMES:
            for place in range(6):
                c = [1 if k == place else 0 for k in range(6)]
                for v, row in zip(CORNERS, PLACES[place]):
                    self.assertEqual(polar(p, c, v), expected_normal(p, row), (p, place, v))
                together = [sum(numbers) for numbers in zip(*PLACES[place])]
                self.assertEqual(polar(p, c, [1, 1, 1]), expected_normal(p, together), (p, place))

    def test_each_number_beside_another(self):
        # With a 1 at x x or y z the row isn't divided away, so it tells how much of each number goes in.
        self.assertEqual(polar(61, [1, 7, 9, 0, 0, 0], [1, 0, 0]), [1, 1, 34, 35])
        self.assertEqual(polar(61, [0, 1, 0, 7, 9, 0], [0, 1, 0]), [1, 1, 14, 9])
        self.assertEqual(polar(61, [0, 0, 1, 0, 9, 7], [0, 0, 1]), [1, 1, 9, 14])

    def test_twice_a_number_is_zero_modulo_two(self):
        for v in all_rows(2, 3):
            for c in [[1, 0, 0, 0, 0, 0], [0, 0, 0, 1, 0, 0], [0, 0, 0, 0, 0, 1], [1, 0, 0, 1, 0, 1]]:
                self.assertEqual(polar(2, c, v), [0])
        self.assertEqual(polar(2, [1, 1, 0, 1, 0, 1], [1, 0, 0]), [1, 0, 1, 0])

    def test_moved_to_zeros(self):
        for p in PRIMES:
            self.assertEqual(polar(p, [0] * 6, [1, p - 1, 1]), [0])
            self.assertEqual(polar(p, [1, 0, 0, 0, 0, 0], [0, 1, p - 1]), [0])
            # x y, the lines x and y, at the point on both.
            self.assertEqual(polar(p, [0, 1, 0, 0, 0, 0], [0, 0, p - 1]), [0])
            # (x - y) (x - y) at (1, 1, z)
            self.assertEqual(polar(p, [1, -2 % p, 0, 1, 0, 0], [1, 1, p - 1]), [0])
        # Modulo 2 all tangents of y y - x z meet in one point.
        self.assertEqual(polar(2, [0, 0, 1, 1, 0, 0], [0, 1, 0]), [0])

    def test_v_all_zero(self):
        for p in PRIMES:
            self.assertEqual(polar(p, [0] * 6, [0, 0, 0]), [0])
            self.assertEqual(polar(p, [p - 1] * 6, [0, 0, 0]), [0])

    def test_tangents_of_a_conic(self):
        for p in PRIMES:
            c = [0, 0, 1, p - 1, 0, 0]
            points = conic_points(p)
            for v in points:
                answer = polar(p, c, v)
                self.assertEqual(answer[0], 1)
                # The tangent touches the conic in this point alone.
                self.assertEqual([w for w in points if lies_on(p, w, answer[1:])], [v], (p, v))

    def test_tangents_by_hand(self):
        # Of y y - x z at (1, t, t t): (t t, -2 t, 1).
        self.assertEqual(polar(7, [0, 0, 1, 6, 0, 0], [1, 0, 0]), [1, 0, 0, 1])
        self.assertEqual(polar(7, [0, 0, 1, 6, 0, 0], [0, 0, 1]), [1, 1, 0, 0])
        self.assertEqual(polar(7, [0, 0, 1, 6, 0, 0], [1, 1, 1]), [1, 1, 5, 1])
        self.assertEqual(polar(61, [0, 0, 1, 60, 0, 0], [1, 1, 1]), [1, 1, 59, 1])
        self.assertEqual(polar(61, [0, 0, 1, 60, 0, 0], [1, 60, 1]), [1, 1, 2, 1])

    def test_the_points_whose_tangents_meet_in_v(self):
        # For an odd p, w lies on v's polar if v lies on w's.
        for p in [3, 5, 7]:
            for c in some_rows(p, 6, 10):
                for v in points_by_search(p):
                    for w in points_by_search(p):
                        first, second = polar(p, c, v), polar(p, c, w)
                        if first != [0] and second != [0]:
                            self.assertEqual(lies_on(p, w, first[1:]), lies_on(p, v, second[1:]))

    def test_rows_not_in_their_one_form(self):
        for k in range(1, 61):
            self.assertEqual(polar(61, [1, 2, 3, 4, 5, 6], [k, k, k]), [1, 1, 37, 29])
            self.assertEqual(polar(61, [k * a % 61 for a in range(1, 7)], [1, 1, 1]), [1, 1, 37, 29])

    def test_every_conic_and_row_of_the_smallest_planes(self):
        for p in [2, 3]:
            for c in all_rows(p, 6):
                for v in all_rows(p, 3):
                    self.assertEqual(polar(p, c, v), by_sums(p, c, v), (p, c, v))

    def test_every_prime_against_the_sums(self):
        for p in PRIMES:
            for c, v in zip(some_rows(p, 6, 100), some_rows(p, 3, 100)):
                self.assertEqual(polar(p, c, v), by_sums(p, c, v), (p, c, v))


if __name__ == "__main__":
    unittest.main()
