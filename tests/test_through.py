"""Promise 8: what a conic is, through."""

import itertools
import unittest

from finiteplanes.planes import through
from tests.helper import (PRIMES, all_rows, are_arc, conic_value, flat, is_point, nearly_arc, points_by_search,
                          some_arcs, some_points)

# Below 5 there are no five points of which no three lie on a line.
WITH_FIVE = PRIMES[2:]


class ThroughTest(unittest.TestCase):
    def check(self, p, points):
        """An answer of 1 is held against what is asked of it."""
        answer = through(p, flat(points))
        conic = answer[1:]
        told = (p, points, answer)
        self.assertEqual((answer[0], len(conic)), (1, 6), told)
        self.assertTrue(all(0 <= a < p for a in conic), told)
        self.assertTrue(is_point(conic), told)
        for v in points:
            self.assertEqual(conic_value(p, conic, v), 0, told)

    def check_refused(self, p, points):
        self.assertEqual(through(p, flat(points)), [0], (p, points))

    def test_by_hand(self):
        # x z is y y for (0, 0, 1) and each (1, t, t t).
        self.assertEqual(through(5, [0, 0, 1, 1, 0, 0, 1, 1, 1, 1, 2, 4, 1, 3, 4]), [1, 0, 0, 1, 4, 0, 0])
        self.assertEqual(through(61, [1, 0, 0, 1, 1, 1, 1, 2, 4, 1, 8, 3, 1, 60, 1]), [1, 0, 0, 1, 60, 0, 0])
        # x y + x z + 5 y z, at (1, 2, 3) 2 + 3 + 30.
        self.assertEqual(through(7, [1, 0, 0, 0, 1, 0, 0, 0, 1, 1, 1, 1, 1, 2, 3]), [1, 0, 1, 1, 0, 5, 0])
        # x x + y y + z z, for 1 + 4 is 0 modulo 5.
        five = [[1, 2, 0], [1, 3, 0], [1, 0, 2], [1, 0, 3], [0, 1, 2]]
        self.assertEqual(through(5, flat(five)), [1, 1, 0, 0, 1, 0, 1])

    def test_where_the_first_number_stands(self):
        # The conic of all (1, t, t t), with its x, y and z changed about.
        for p in [11, 61]:
            xx = [[0, 0, 1], [0, 1, 0], [1, 1, 1]] + self.one_forms(p, [[2, 1, 4], [3, 1, 9]])
            self.assertEqual(through(p, flat(xx)), [1, 1, 0, 0, 0, p - 1, 0])
            xy = [[1, 0, 0], [0, 1, 0], [1, 1, 1]] + self.one_forms(p, [[4, 1, 2], [9, 1, 3]])
            self.assertEqual(through(p, flat(xy)), [1, 0, 1, 0, 0, 0, p - 1])
            xz = [[1, 0, 0], [0, 0, 1], [1, 1, 1], [1, 2, 4], [1, 3, 9]]
            self.assertEqual(through(p, flat(xz)), [1, 0, 0, 1, p - 1, 0, 0])

    def one_forms(self, p, rows):
        return [[a * k % p for a in row] for row in rows for k in range(p) if row[0] * k % p == 1]

    def test_five_points_of_every_prime(self):
        for p in WITH_FIVE:
            for arc in some_arcs(p, 5, 20):
                self.check(p, arc)

    def test_the_one_conic_by_search(self):
        for p, how_many in [(5, 20), (7, 3)]:
            conics = [c for c in all_rows(p, 6) if is_point(c)]
            for arc in some_arcs(p, 5, how_many):
                found = [c for c in conics if all(conic_value(p, c, v) == 0 for v in arc)]
                self.assertEqual(len(found), 1)
                self.assertEqual(through(p, flat(arc)), [1] + found[0], (p, arc))

    def test_any_five_points_of_one_conic_in_any_order(self):
        for p in [5, 7, 61]:
            arc = some_arcs(p, 5, 1)[0]
            answer = through(p, flat(arc))
            on_it = [v for v in points_by_search(p) if conic_value(p, answer[1:], v) == 0]
            self.assertEqual(len(on_it), p + 1)
            for five in itertools.permutations(arc):
                self.assertEqual(through(p, flat(five)), answer)
            for five in itertools.combinations(on_it[:8], 5):
                self.assertEqual(through(p, flat(five)), answer)

    def test_planes_without_five_such_points(self):
        for p in [2, 3]:
            for five in itertools.combinations_with_replacement(points_by_search(p), 5):
                self.check_refused(p, five)
                self.check_refused(p, five[::-1])
        for five in itertools.product(points_by_search(2), repeat=5):
            self.check_refused(2, five)

    def test_every_five_points_of_the_next_plane(self):
        # By a matrix each point can be moved to each other, so those five are enough that have this one among them.
        first = [1, 0, 0]
        rest = [v for v in points_by_search(5) if v != first]
        found = 0
        for four in itertools.combinations(rest, 4):
            five = [four[0], four[1], first, four[2], four[3]]
            if are_arc(5, five):
                found += 1
                self.check(5, five)
            else:
                self.check_refused(5, five)
        # 3100 conics of 6 points have 6 fives each, and each of the 31 points is in as many of these: 5 in 31.
        self.assertEqual(found, 3000)

    def test_two_equal_points(self):
        for p in [5, 7, 61]:
            for arc in some_arcs(p, 5, 3):
                for i, k in itertools.combinations(range(5), 2):
                    equal = list(arc)
                    equal[k] = equal[i]
                    self.check_refused(p, equal)
        for p in PRIMES:
            self.check_refused(p, [[1, 1, p - 1]] * 5)

    def test_three_on_a_line(self):
        for p in [5, 7, 31, 61]:
            for places in itertools.combinations(range(5), 3):
                self.check_refused(p, nearly_arc(p, 5, places))

    def test_more_on_a_line(self):
        for p in [5, 61]:
            line = [[1, 0, 0], [0, 1, 0], [1, 1, 0], [1, 2, 0], [1, 3, 0]]
            self.check_refused(p, line)
            self.check_refused(p, line[:4] + [[0, 0, 1]])

    def test_mixed_points_of_every_prime(self):
        for p in PRIMES:
            points = some_points(p, 250)
            for k in range(0, 250, 5):
                five = points[k:k + 5]
                if are_arc(p, five):
                    self.check(p, five)
                else:
                    self.check_refused(p, five)


if __name__ == "__main__":
    unittest.main()
