"""Promise 10: more."""

import itertools
import unittest

from finiteplanes.planes import arc, more
from tests.helper import PRIMES, are_arc, conic_points, flat, nearly_arc, points_by_search, some_arcs, some_points

CORNERS = [[1, 0, 0], [0, 1, 0], [0, 0, 1], [1, 1, 1]]


def count_by_arc(p, points):
    """How often arc says 1 when each point by itself is put to them."""
    return len([v for v in points_by_search(p) if arc(p, len(points) + 1, flat(points) + v) == [1]])


def full_arc(p, first):
    """The points, and each point in order put to them that leaves no three on a line."""
    points = list(first)
    for v in points_by_search(p):
        if are_arc(p, points + [v]):
            points.append(v)
    return points


class MoreTest(unittest.TestCase):
    def check(self, p, points, expected):
        self.assertEqual(more(p, len(points), flat(points)), [expected], (p, points))

    def check_by_arc(self, p, points):
        self.check(p, points, count_by_arc(p, points))

    def test_no_point(self):
        for p in PRIMES:
            self.check(p, [], p * p + p + 1)
        self.assertEqual(more(2, 0, []), [7])
        self.assertEqual(more(61, 0, []), [3783])

    def test_one_point(self):
        for p in PRIMES:
            for v in [[0, 0, 1], [0, 1, 0], [0, 1, p - 1], [1, 0, 0], [1, p - 1, p - 1]]:
                self.check(p, [v], p * p + p)

    def test_two_points(self):
        for p in PRIMES:
            # All but the points of the line through both.
            self.check(p, [[0, 0, 1], [1, 0, 0]], p * p)
            self.check(p, [[1, p - 1, p - 1], [1, 0, p - 1]], p * p)
            self.check(p, [[0, 0, 1], [0, 0, 1]], 0)
            self.check(p, [[1, p - 1, p - 1], [1, p - 1, p - 1]], 0)
        for p in [2, 3]:
            for u, v in itertools.product(points_by_search(p), repeat=2):
                self.check(p, [u, v], 0 if u == v else p * p)

    def test_three_four_and_five_points(self):
        # The lines through each two of them take away so many, whichever points they are.
        for p in PRIMES:
            for points in some_arcs(p, 3, 3):
                self.check(p, points, (p - 1) * (p - 1))
            for points in some_arcs(p, 4, 3):
                self.check(p, points, (p - 2) * (p - 3))
            if p > 3:
                for points in some_arcs(p, 5, 3):
                    self.check(p, points, p * p - 9 * p + 21)

    def test_points_that_are_no_arc(self):
        for p in PRIMES:
            a, b, c = [1, 0, 0], [0, 1, 0], [1, 1, 0]
            for points in [[a, b, c], [a, a, b], [a, b, b], [a, b, a], [a, b, c, [0, 0, 1]], [[0, 0, 1], a, b, c]]:
                self.check(p, points, 0)
        for places in itertools.combinations(range(5), 3):
            self.check(13, nearly_arc(13, 5, places), 0)
            self.check(61, nearly_arc(61, 5, places), 0)
        for p in [7, 61]:
            points = conic_points(p)[:6]
            for i, k in itertools.combinations(range(6), 2):
                equal = list(points)
                equal[k] = equal[i]
                self.check(p, equal, 0)

    def test_an_arc_to_which_nothing_can_be_put(self):
        self.check(2, CORNERS, 0)
        self.check(3, CORNERS, 0)
        for p in [5, 7, 11, 13]:
            for first in some_arcs(p, 5, 3):
                points = full_arc(p, first)
                self.check(p, points, 0)
                self.assertEqual(arc(p, len(points), flat(points)), [1])

    def test_points_of_a_conic(self):
        # Modulo 2 there's a point on all tangents, which can be put to the three.
        self.check(2, conic_points(2), 1)
        for p in PRIMES[1:]:
            points = conic_points(p)
            self.check(p, points, 0)
            self.check(p, points[::-1], 0)
            if p > 3:
                # The point that was left out, and no other.
                self.check(p, points[:-1], 1)
                self.check(p, points[1:], 1)
                self.check(p, points[:p // 2] + points[p // 2 + 1:], 1)

    def test_every_row_of_points_of_the_smallest_planes(self):
        for n in range(5):
            for points in itertools.product(points_by_search(2), repeat=n):
                self.check_by_arc(2, points)
        for n in range(4):
            for points in itertools.product(points_by_search(3), repeat=n):
                self.check_by_arc(3, points)
        for points in itertools.combinations(points_by_search(3), 4):
            self.check_by_arc(3, points)

    def test_the_next_plane_by_arc(self):
        for n in range(3):
            for points in itertools.product(points_by_search(5), repeat=n):
                self.check_by_arc(5, points)
        for n in range(3, 7):
            for points in some_arcs(5, n, 15):
                self.check_by_arc(5, points)
                self.check_by_arc(5, points[::-1])

    def test_mixed_points_by_arc(self):
        for p in [2, 3, 5, 7, 11]:
            for n in range(3, 8):
                points = some_points(p, 4 * n)
                for k in range(0, 4 * n, n):
                    self.check_by_arc(p, points[k:k + n])

    def test_larger_arcs_by_arc(self):
        for p in [7, 11, 13]:
            for points in some_arcs(p, 6, 5):
                self.check_by_arc(p, points)
            for n in range(3, p + 2):
                self.check_by_arc(p, conic_points(p)[:n])

    def test_largest_plane(self):
        self.check(61, CORNERS, 3422)
        self.check(61, CORNERS + [[1, 2, 3]], 3193)
        for n in [6, 10, 20, 30]:
            self.check_by_arc(61, conic_points(61)[:n])
        self.check_by_arc(61, some_arcs(61, 8, 1)[0])
        self.check(61, conic_points(61)[:61], 1)
        self.check(61, conic_points(61), 0)

    def test_most_points_that_can_be_handed_in(self):
        for p in PRIMES:
            points = points_by_search(p)
            self.check(p, [points[k % len(points)] for k in range(64)], 0)
            self.check(p, [[1, p - 1, 1]] * 64, 0)
            self.check(p, some_points(p, 64), 0)
        best = conic_points(61)
        for two in [[[0, 1, 0], [1, 0, 1]], [best[0], best[0]], [best[0], best[61]]]:
            self.check(61, best + two, 0)
            self.check(61, two + best, 0)


if __name__ == "__main__":
    unittest.main()
