"""Promise 3: join."""

import unittest

from finiteplanes.planes import join
from tests.helper import PRIMES, all_rows, expected_normal, is_point, lies_on, points_by_search, some_rows


def multiples(p, row):
    """Every multiple of the row, the row of 0 among them."""
    return [[k * a % p for a in row] for k in range(p)]


class JoinTest(unittest.TestCase):
    def test_lines_reckoned_by_hand(self):
        self.assertEqual(join(2, [1, 0, 1], [0, 1, 1]), [1, 1, 1, 1])
        self.assertEqual(join(3, [1, 1, 1], [1, 2, 0]), [1, 1, 1, 1])
        self.assertEqual(join(5, [1, 0, 0], [0, 1, 0]), [1, 0, 0, 1])
        self.assertEqual(join(7, [1, 2, 3], [1, 4, 6]), [1, 0, 1, 4])
        self.assertEqual(join(61, [1, 2, 3], [1, 60, 1]), [1, 1, 37, 36])

    def test_each_corner_with_the_next(self):
        for p in PRIMES:
            self.assertEqual(join(p, [1, 0, 0], [0, 1, 0]), [1, 0, 0, 1])
            self.assertEqual(join(p, [0, 1, 0], [0, 0, 1]), [1, 1, 0, 0])
            self.assertEqual(join(p, [0, 0, 1], [1, 0, 0]), [1, 0, 1, 0])

    def test_the_point_on_two_lines(self):
        self.assertEqual(join(11, [1, 2, 3], [1, 5, 0]), [1, 1, 2, 2])
        self.assertTrue(lies_on(11, [1, 2, 2], [1, 2, 3]))
        self.assertTrue(lies_on(11, [1, 2, 2], [1, 5, 0]))
        self.assertEqual(join(2, [1, 1, 0], [0, 1, 1]), [1, 1, 1, 1])
        self.assertEqual(join(61, [1, 0, 60], [0, 1, 60]), [1, 1, 1, 1])

    def test_differences_below_zero(self):
        # The cross is (-15, 3, 3), (-178, 2, 58) and (4, -16, 0) ahead of the reckoning modulo p.
        self.assertEqual(join(11, [1, 2, 3], [1, 5, 0]), [1, 1, 2, 2])
        self.assertEqual(join(61, [1, 2, 3], [1, 60, 1]), [1, 1, 37, 36])
        self.assertEqual(join(5, [4, 1, 4], [0, 0, 4]), [1, 1, 1, 0])

    def test_rows_not_in_their_one_form(self):
        self.assertEqual(join(7, [2, 4, 6], [3, 5, 4]), [1, 0, 1, 4])
        self.assertEqual(join(61, [60, 59, 58], [2, 59, 2]), [1, 1, 37, 36])
        for u, v in zip(some_rows(13, 3, 200), some_rows(13, 3, 400)[200:]):
            answer = join(13, u, v)
            for k in range(1, 13):
                self.assertEqual(join(13, [k * a % 13 for a in u], v), answer)
                self.assertEqual(join(13, u, [k * a % 13 for a in v]), answer)

    def test_zero_rows(self):
        for p in PRIMES:
            self.assertEqual(join(p, [0, 0, 0], [0, 0, 0]), [0])
            for v in [[1, 0, 0], [0, 1, p - 1], [0, 0, p - 1], [p - 1, p - 1, 1]]:
                self.assertEqual(join(p, [0, 0, 0], v), [0])
                self.assertEqual(join(p, v, [0, 0, 0]), [0])

    def test_a_row_with_itself_and_its_multiples(self):
        for p in PRIMES:
            for u in [[1, 0, 0], [0, 1, p - 1], [0, 0, 1], [1, p - 1, 1], [p - 1, 1, 0]]:
                for v in multiples(p, u):
                    self.assertEqual(join(p, u, v), [0], (p, u, v))
                    self.assertEqual(join(p, v, u), [0], (p, u, v))

    def test_zero_for_multiples_alone(self):
        for p in [2, 3, 5]:
            for u in all_rows(p, 3):
                for v in all_rows(p, 3):
                    dependent = v in multiples(p, u) or u in multiples(p, v)
                    self.assertEqual(join(p, u, v) == [0], dependent, (p, u, v))

    def test_the_one_line_on_which_both_lie(self):
        for p in [2, 3, 5, 7]:
            points = points_by_search(p)
            # Lines are rows of the same form as points, so both are walked by one list.
            lines_on = [[l for l in points if lies_on(p, v, l)] for v in points]
            for i, u in enumerate(points):
                for k, v in enumerate(points):
                    both = [l for l in lines_on[i] if l in lines_on[k]]
                    expected = [1] + both[0] if len(both) == 1 else [0]
                    self.assertEqual(join(p, u, v), expected, (p, u, v))

    def test_both_lie_on_the_answer_for_every_prime(self):
        for p in PRIMES:
            for u, v in zip(some_rows(p, 3, 300), some_rows(p, 3, 600)[300:]):
                answer = join(p, u, v)
                if answer == [0]:
                    self.assertTrue(v in multiples(p, u) or u in multiples(p, v), (p, u, v))
                else:
                    line = answer[1:]
                    self.assertEqual((answer[0], len(line), is_point(line)), (1, 3, True))
                    self.assertTrue(all(0 <= a < p for a in line))
                    self.assertTrue(lies_on(p, u, line) and lies_on(p, v, line), (p, u, v))

    def test_against_the_cross(self):
        for p in PRIMES:
            for u, v in zip(some_rows(p, 3, 100), some_rows(p, 3, 200)[100:]):
                (a, b, c), (d, e, f) = u, v
                expected = expected_normal(p, [b * f - c * e, c * d - a * f, a * e - b * d])
                self.assertEqual(join(p, u, v), expected, (p, u, v))
                self.assertEqual(join(p, v, u), expected, (p, u, v))


if __name__ == "__main__":
    unittest.main()
