"""Promise 2: the order of the points, number and point."""

import unittest

from finiteplanes.planes import number, point
from tests.helper import PRIMES, points_by_search

LARGEST = 2147483647

BY_HAND = {
    2: [[0, 0, 1], [0, 1, 0], [0, 1, 1], [1, 0, 0], [1, 0, 1], [1, 1, 0], [1, 1, 1]],
    3: [[0, 0, 1], [0, 1, 0], [0, 1, 1], [0, 1, 2], [1, 0, 0], [1, 0, 1], [1, 0, 2],
        [1, 1, 0], [1, 1, 1], [1, 1, 2], [1, 2, 0], [1, 2, 1], [1, 2, 2]],
}


class NumberPointTest(unittest.TestCase):
    def check_order(self, p, points):
        for i, v in enumerate(points):
            self.assertEqual(number(p, v), [i], (p, v))
            self.assertEqual(point(p, i), [1] + v, (p, i))
        self.assertEqual(point(p, len(points)), [0], p)

    def test_orders_made_by_hand(self):
        for p in BY_HAND:
            self.check_order(p, BY_HAND[p])

    def test_orders_found_by_search(self):
        for p in PRIMES:
            points = points_by_search(p)
            self.assertEqual(len(points), p * p + p + 1)
            self.assertEqual(points, sorted(points))
            self.check_order(p, points)

    def test_each_is_the_way_back_of_the_other(self):
        for p in PRIMES:
            for v in points_by_search(p):
                self.assertEqual(point(p, number(p, v)[0]), [1] + v)
            for i in range(p * p + p + 1):
                self.assertEqual(number(p, point(p, i)[1:]), [i])

    def test_where_one_group_of_points_ends(self):
        for p in PRIMES:
            self.assertEqual(point(p, 0), [1, 0, 0, 1])
            self.assertEqual(point(p, 1), [1, 0, 1, 0])
            self.assertEqual(point(p, p), [1, 0, 1, p - 1])
            self.assertEqual(point(p, p + 1), [1, 1, 0, 0])
            self.assertEqual(number(p, [0, 0, 1]), [0])
            self.assertEqual(number(p, [0, 1, 0]), [1])
            self.assertEqual(number(p, [0, 1, p - 1]), [p])
            self.assertEqual(number(p, [1, 0, 0]), [p + 1])

    def test_last_point(self):
        for p in PRIMES:
            self.assertEqual(point(p, p * p + p), [1, 1, p - 1, p - 1])
            self.assertEqual(number(p, [1, p - 1, p - 1]), [p * p + p])

    def test_no_such_point(self):
        for p in PRIMES:
            for i in [p * p + p + 1, p * p + p + 2, p * p * p, 3783, 1000000, LARGEST - 1, LARGEST]:
                if i > p * p + p:
                    self.assertEqual(point(p, i), [0], (p, i))

    def test_largest_plane(self):
        self.assertEqual(point(61, 3782), [1, 1, 60, 60])
        self.assertEqual(point(61, 3783), [0])
        self.assertEqual(number(61, [1, 2, 3]), [187])
        self.assertEqual(point(61, 187), [1, 1, 2, 3])


if __name__ == "__main__":
    unittest.main()
