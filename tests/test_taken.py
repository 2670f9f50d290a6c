"""Promise 6: taken."""

import itertools
import unittest

from finiteplanes.planes import taken
from tests.helper import (PRIMES, all_rows, are_arc, determinant, flat, is_point, nearly_arc, one_form_by_search,
                          points_by_search, some_arcs, some_points)

CORNERS = [[1, 0, 0], [0, 1, 0], [0, 0, 1], [1, 1, 1]]


def image(p, m, v):
    """What the matrix moves v to, in its one form."""
    return one_form_by_search(p, [sum(a * b for a, b in zip(row, v)) for row in (m[0:3], m[3:6], m[6:9])])


def all_matrices(p):
    """Every matrix in its one form whose rows' determinant isn't 0."""
    return [m for m in all_rows(p, 9) if is_point(m) and determinant(p, m[0:3], m[3:6], m[6:9]) != 0]


class TakenTest(unittest.TestCase):
    def check(self, p, start, goal):
        """An answer of 1 is held against what is asked of it."""
        answer = taken(p, flat(start), flat(goal))
        matrix = answer[1:]
        told = (p, start, goal, answer)
        self.assertEqual((answer[0], len(matrix)), (1, 9), told)
        self.assertTrue(all(0 <= a < p for a in matrix), told)
        self.assertTrue(is_point(matrix), told)
        self.assertNotEqual(determinant(p, matrix[0:3], matrix[3:6], matrix[6:9]), 0, told)
        for v, w in zip(start, goal):
            self.assertEqual(image(p, matrix, v), w, told)

    def check_refused(self, p, start, goal):
        self.assertEqual(taken(p, flat(start), flat(goal)), [0], (p, start, goal))

    def test_by_hand(self):
        corners = flat(CORNERS)
        spread = [1, 0, 0, 0, 1, 0, 0, 0, 1, 1, 2, 3]
        self.assertEqual(taken(7, corners, spread), [1, 1, 0, 0, 0, 2, 0, 0, 0, 3])
        self.assertEqual(taken(7, spread, corners), [1, 1, 0, 0, 0, 4, 0, 0, 0, 5])
        self.assertEqual(taken(61, corners, spread), [1, 1, 0, 0, 0, 2, 0, 0, 0, 3])
        swapped = [0, 1, 0, 1, 0, 0, 0, 0, 1, 1, 1, 1]
        self.assertEqual(taken(5, corners, swapped), [1, 0, 1, 0, 1, 0, 0, 0, 0, 1])
        turned = [0, 1, 0, 0, 0, 1, 1, 0, 0, 1, 1, 1]
        self.assertEqual(taken(61, corners, turned), [1, 0, 0, 1, 1, 0, 0, 0, 1, 0])
        self.assertEqual(taken(61, turned, corners), [1, 0, 1, 0, 0, 0, 1, 1, 0, 0])

    def test_the_same_four_points(self):
        for p in PRIMES:
            for arc in [CORNERS] + some_arcs(p, 4, 5):
                self.assertEqual(taken(p, flat(arc), flat(arc)), [1, 1, 0, 0, 0, 1, 0, 0, 0, 1])

    def test_corners_to_others_and_others_to_corners(self):
        for p in PRIMES:
            for arc in some_arcs(p, 4, 20):
                self.check(p, CORNERS, arc)
                self.check(p, arc, CORNERS)

    def test_others_to_others(self):
        for p in PRIMES:
            arcs = some_arcs(p, 4, 21)
            for start, goal in zip(arcs, arcs[1:]):
                self.check(p, start, goal)

    def test_the_same_points_in_other_orders(self):
        for p in [2, 3, 61]:
            for goal in itertools.permutations(CORNERS):
                self.check(p, CORNERS, list(goal))

    def test_the_one_matrix_by_search(self):
        for p, how_many in [(2, 12), (3, 6)]:
            matrices = all_matrices(p)
            arcs = some_arcs(p, 4, how_many + 1)
            for start, goal in zip(arcs, arcs[1:]):
                found = [m for m in matrices if all(image(p, m, v) == w for v, w in zip(start, goal))]
                self.assertEqual(len(found), 1)
                self.assertEqual(taken(p, flat(start), flat(goal)), [1] + found[0], (p, start, goal))

    def test_every_four_points_of_the_smallest_planes(self):
        for p in [2, 3]:
            for four in itertools.product(points_by_search(p), repeat=4):
                if are_arc(p, four):
                    self.check(p, four, CORNERS)
                    self.check(p, CORNERS, four)
                else:
                    self.check_refused(p, four, CORNERS)
                    self.check_refused(p, CORNERS, four)

    def test_two_equal_points(self):
        for p in [2, 3, 7, 61]:
            other, arc = some_arcs(p, 4, 2)
            for i, k in itertools.combinations(range(4), 2):
                equal = list(arc)
                equal[k] = equal[i]
                self.check_refused(p, equal, other)
                self.check_refused(p, other, equal)
                self.check_refused(p, equal, equal)

    def test_three_on_a_line(self):
        for p in [3, 5, 13, 61]:
            other = some_arcs(p, 4, 1)[0]
            for places in itertools.combinations(range(4), 3):
                points = nearly_arc(p, 4, places)
                self.check_refused(p, points, other)
                self.check_refused(p, other, points)
                self.check_refused(p, points, points)

    def test_mixed_points_of_every_prime(self):
        for p in PRIMES:
            points = some_points(p, 400)
            for k in range(0, 400, 8):
                start, goal = points[k:k + 4], points[k + 4:k + 8]
                if are_arc(p, start) and are_arc(p, goal):
                    self.check(p, start, goal)
                else:
                    self.check_refused(p, start, goal)


if __name__ == "__main__":
    unittest.main()
