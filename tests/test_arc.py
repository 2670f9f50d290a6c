"""Promise 10: arc."""

import itertools
import unittest

from finiteplanes.planes import arc
from tests.helper import (PRIMES, are_arc, conic_points, determinant, flat, lines_of_three, nearly_arc,
                          points_by_search, some_arcs, some_points)


class ArcTest(unittest.TestCase):
    def check(self, p, points, expected):
        self.assertEqual(arc(p, len(points), flat(points)), [expected], (p, points))

    def test_no_point(self):
        for p in PRIMES:
            self.assertEqual(arc(p, 0, []), [1])

    def test_one_point(self):
        for p in PRIMES:
            for v in [[0, 0, 1], [0, 1, p - 1], [1, 0, 0], [1, p - 1, p - 1]]:
                self.check(p, [v], 1)

    def test_two_points(self):
        for p in [2, 3, 5]:
            for u, v in itertools.product(points_by_search(p), repeat=2):
                self.check(p, [u, v], 0 if u == v else 1)
        self.check(61, [[1, 60, 60], [1, 60, 59]], 1)
        self.check(61, [[1, 60, 60], [1, 60, 60]], 0)

    def test_three_points_by_hand(self):
        self.check(2, [[1, 0, 0], [0, 1, 0], [0, 0, 1]], 1)
        self.check(2, [[1, 0, 0], [0, 1, 0], [1, 1, 0]], 0)
        self.check(7, [[1, 0, 0], [1, 2, 3], [1, 4, 6]], 0)
        self.check(7, [[1, 0, 0], [1, 2, 3], [1, 4, 5]], 1)
        self.check(61, [[1, 1, 1], [1, 2, 60], [1, 3, 58]], 0)
        self.check(61, [[1, 1, 1], [1, 2, 60], [1, 3, 59]], 1)

    def test_every_three_points_against_the_determinant(self):
        for p in [2, 3, 5]:
            for u, v, w in itertools.product(points_by_search(p), repeat=3):
                # Equal points leave it 0 too.
                self.check(p, [u, v, w], 0 if determinant(p, u, v, w) == 0 else 1)

    def test_every_four_points_of_the_smallest_planes(self):
        for p in [2, 3]:
            for four in itertools.product(points_by_search(p), repeat=4):
                self.check(p, four, 1 if are_arc(p, four) else 0)

    def test_points_of_a_conic(self):
        for p in PRIMES:
            points = conic_points(p)
            self.check(p, points, 1)
            self.check(p, points[::-1], 1)
            self.check(p, points[::2] + points[1::2], 1)
            for n in range(p + 1):
                self.check(p, points[:n], 1)

    def test_largest_arc_of_the_smallest_plane(self):
        self.check(2, [[1, 0, 0], [0, 1, 0], [0, 0, 1], [1, 1, 1]], 1)
        for v in points_by_search(2):
            self.check(2, [[1, 0, 0], [0, 1, 0], [0, 0, 1], [1, 1, 1], v], 0)

    def test_two_equal_points_among_many(self):
        for p in [7, 31, 61]:
            points = conic_points(p)
            last = len(points) - 1
            for i, k in [(0, 1), (last - 1, last), (0, last), (last // 2, last // 2 + 1), (1, last - 1)]:
                equal = list(points)
                equal[k] = equal[i]
                self.check(p, equal, 0)

    def test_two_equal_points_put_to_many(self):
        for p in [7, 61]:
            points = conic_points(p)
            for v in [points[0], points[len(points) // 2], points[-1]]:
                self.check(p, points + [v], 0)
                self.check(p, [v] + points, 0)

    def test_three_on_a_line_at_any_places(self):
        for places in itertools.combinations(range(8), 3):
            self.check(31, nearly_arc(31, 8, places), 0)

    def test_three_on_a_line_among_many(self):
        # Through v, a point off the conic, go lines with two of its points: one of each and v are an arc, and a
        # second one of a line is on it with v and the first, and with no others.
        points = conic_points(61)
        off = [v for v in points_by_search(61) if v not in points]
        for v in off[::401]:
            pairs = [(a, b) for a, b in itertools.combinations(points, 2) if determinant(61, a, b, v) == 0]
            seconds = [b for a, b in pairs]
            half = [w for w in points if w not in seconds]
            self.assertGreater(len(half), 30)
            self.check(61, half + [v], 1)
            self.check(61, [v] + half, 1)
            for first, second in [pairs[0], pairs[len(pairs) // 2], pairs[-1]]:
                self.check(61, half + [second], 1)
                self.check(61, half + [second, v], 0)
                self.check(61, [v, second] + half, 0)
                self.check(61, [second] + half + [v], 0)
                self.check(61, [v] + half + [second], 0)
                self.check(61, half[:15] + [v] + half[15:] + [second], 0)

    def test_most_points_that_can_be_handed_in(self):
        for p in PRIMES:
            points = points_by_search(p)
            # Where there are fewer than 64 points some must be equal; where there are more, three are on a line.
            repeated = [points[k % len(points)] for k in range(64)]
            self.check(p, repeated, 0)
            self.check(p, [[0, 0, 1]] * 64, 0)
            self.check(p, some_points(p, 64), 0)
        best = conic_points(61)
        for two in [[[0, 1, 0], [1, 0, 1]], [[1, 0, 1], [1, 0, 2]], [best[0], best[0]], [best[0], best[61]]]:
            self.check(61, best + two, 0)
            self.check(61, two + best, 0)

    def test_mixed_points_of_every_prime(self):
        for p in PRIMES:
            for n in range(3, 8):
                points = some_points(p, 5 * n)
                for k in range(0, 5 * n, n):
                    mixed = points[k:k + n]
                    self.check(p, mixed, 1 if are_arc(p, mixed) else 0)

    def test_arcs_of_every_prime(self):
        for p in PRIMES[3:]:
            for points in some_arcs(p, 6, 5):
                self.check(p, points, 1)
                for v in some_points(p, 10):
                    expected = 1 if v not in points and lines_of_three(p, points + [v]) == [] else 0
                    self.check(p, points + [v], expected)


if __name__ == "__main__":
    unittest.main()
