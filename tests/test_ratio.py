"""Promise 7: the double ratio, ratio."""

import itertools
import unittest

from finiteplanes.planes import ratio
from tests.helper import PRIMES, determinant, flat, lies_on, lines_of_three, points_by_search, some_points


def line_points(p, line):
    return [v for v in points_by_search(p) if lies_on(p, v, line)]


def ratio_by_search(p, points):
    """The double ratio as it's told, with o and the quotient found by trying; -1 where there's none."""
    a, b, c, d = points
    if any(u == v for u, v in itertools.combinations(points, 2)) or len(lines_of_three(p, points)) < 4:
        return -1
    o = [v for v in points_by_search(p) if determinant(p, v, a, b) != 0][0]
    above = determinant(p, o, a, c) * determinant(p, o, b, d)
    below = determinant(p, o, a, d) * determinant(p, o, b, c)
    found = [r for r in range(p) if (r * below - above) % p == 0]
    assert len(found) == 1
    return found[0]


class RatioTest(unittest.TestCase):
    def check(self, p, points):
        expected = ratio_by_search(p, points)
        self.assertEqual(ratio(p, flat(points)), [expected], (p, points))
        return expected

    def test_by_hand(self):
        # On z = 0 with o (0, 0, 1): (1) (-1) divided by (k) (-1), so one k-th.
        for p in PRIMES:
            for k in range(2, p):
                answer = ratio(p, [1, 0, 0, 0, 1, 0, 1, 1, 0, 1, k, 0])
                self.assertEqual(answer[0] * k % p, 1)
        self.assertEqual(ratio(3, [1, 0, 0, 0, 1, 0, 1, 1, 0, 1, 2, 0]), [2])
        self.assertEqual(ratio(5, [1, 0, 0, 0, 1, 0, 1, 1, 0, 1, 2, 0]), [3])
        self.assertEqual(ratio(7, [1, 0, 0, 0, 1, 0, 1, 1, 0, 1, 3, 0]), [5])
        self.assertEqual(ratio(61, [1, 0, 0, 0, 1, 0, 1, 1, 0, 1, 2, 0]), [31])
        self.assertEqual(ratio(61, [1, 0, 0, 0, 1, 0, 1, 1, 0, 1, 60, 0]), [60])

    def test_orders_by_hand(self):
        a, b, c, d = [1, 0, 0], [0, 1, 0], [1, 1, 0], [1, 3, 0]
        # One third is 5 modulo 7; c and d changed about it's 3, b and c changed about it's 1 - 5.
        self.assertEqual(ratio(7, flat([a, b, c, d])), [5])
        self.assertEqual(ratio(7, flat([a, b, d, c])), [3])
        self.assertEqual(ratio(7, flat([b, a, c, d])), [3])
        self.assertEqual(ratio(7, flat([c, d, a, b])), [5])
        self.assertEqual(ratio(7, flat([a, c, b, d])), [3])
        self.assertEqual(ratio(11, flat([a, b, c, d])), [4])
        self.assertEqual(ratio(11, flat([a, c, b, d])), [8])

    def test_every_line_of_small_planes(self):
        for p in [3, 5]:
            for line in points_by_search(p):
                for four in itertools.permutations(line_points(p, line), 4):
                    self.assertGreater(self.check(p, four), 1)

    def test_lines_with_and_without_the_first_points(self):
        # (0, 0, 1) lies on lines that end with 0; (0, 1, 0) too lies on (1, 0, 0).
        lines = [[0, 0, 1], [0, 1, 0], [1, 0, 0], [0, 1, 1], [1, 1, 0], [1, 0, 1], [1, 1, 1], [1, 2, 3]]
        for p in [7, 61]:
            for line in lines:
                points = line_points(p, line)
                for start in [0, 1, 3, p - 3]:
                    for four in itertools.permutations(points[start:start + 4]):
                        self.check(p, four)

    def test_every_four_points_of_the_smallest_planes(self):
        for p in [2, 3]:
            for four in itertools.product(points_by_search(p), repeat=4):
                answer = self.check(p, four)
                # No line of the plane of 7 points has four.
                self.assertIn(answer, [-1] if p == 2 else [-1, 2])

    def test_zero_is_never_the_answer(self):
        # Four different points leave no determinant 0, so 0 may not stand where -1 is asked for.
        for p in PRIMES[2:]:
            points = line_points(p, [1, p - 1, 2])
            answers = {ratio(p, flat(points[0:3] + [d]))[0] for d in points[3:]}
            self.assertEqual(answers, set(range(2, p)))
            self.assertEqual({ratio(p, flat(points[0:3] + [d]))[0] for d in points[0:3]}, {-1})

    def test_two_equal_points(self):
        for p in [3, 5, 61]:
            for line in [[0, 0, 1], [1, 0, 0], [1, 1, p - 1]]:
                points = line_points(p, line)[-4:]
                for i, k in itertools.combinations(range(4), 2):
                    equal = list(points)
                    equal[k] = equal[i]
                    self.assertEqual(ratio(p, flat(equal)), [-1], (p, equal))

    def test_more_equal_points(self):
        for p in PRIMES:
            a, b = [1, 0, 0], [1, p - 1, 1]
            for four in itertools.product([a, b], repeat=4):
                self.assertEqual(ratio(p, flat(four)), [-1])

    def test_off_the_line(self):
        for p in [3, 5, 7, 61]:
            for line in [[0, 0, 1], [1, 0, 0], [0, 1, 0], [1, 2, 1]]:
                on_it = line_points(p, line)[:4]
                off = [v for v in points_by_search(p) if not lies_on(p, v, line)]
                a, b, c, d = on_it
                for v, w in [(off[0], off[1]), (off[-1], off[0]), (off[1], off[p])]:
                    self.assertEqual(ratio(p, flat([a, b, v, d])), [-1])
                    self.assertEqual(ratio(p, flat([a, b, c, v])), [-1])
                    self.assertEqual(ratio(p, flat([a, b, v, w])), [-1])
                    self.assertEqual(ratio(p, flat([v, b, c, d])), [-1])
                    self.assertEqual(ratio(p, flat([a, v, c, d])), [-1])

    def test_mixed_points_of_every_prime(self):
        for p in PRIMES:
            points = some_points(p, 80)
            for k in range(0, 80, 4):
                self.check(p, points[k:k + 4])


if __name__ == "__main__":
    unittest.main()
