"""What several tests need: primes, points found by a plain search, and lists that may not be changed."""

import functools
import itertools

PRIMES = [2, 3, 5, 7, 11, 13, 17, 19, 23, 29, 31, 37, 41, 43, 47, 53, 59, 61]


def is_point(row):
    """Whether the first number of the row that isn't 0 is a 1."""
    others = [a for a in row if a != 0]
    return len(others) > 0 and others[0] == 1


@functools.lru_cache(maxsize=None)
def search_points(p):
    return [row for row in itertools.product(range(p), repeat=3) if is_point(row)]


def points_by_search(p):
    """Every point, in order: rows are made with the first number running slowest."""
    return [list(row) for row in search_points(p)]


def all_rows(p, length):
    """Every row of that many numbers."""
    return [list(row) for row in itertools.product(range(p), repeat=length)]


def mixed_numbers(seed):
    """Numbers without end that look mixed and are the same at each run."""
    state = 12345 + seed
    while True:
        state = (state * 1103515245 + 12345) % 2147483648
        yield state // 128


def some_rows(p, length, how_many):
    """Rows that look mixed and are the same at each run, some of their numbers 0."""
    numbers = mixed_numbers(p)
    rows = []
    for k in range(how_many):
        row = []
        for place in range(length):
            row.append(0 if next(numbers) % 8 == 0 else next(numbers) % p)
        rows.append(row)
    return rows


def some_points(p, how_many):
    """Points that look mixed and are the same at each run."""
    points = points_by_search(p)
    numbers = mixed_numbers(p)
    return [points[next(numbers) % len(points)] for k in range(how_many)]


def one_form_by_search(p, row):
    """The one multiple of the row whose first number that isn't 0 is a 1; None if the row is all 0."""
    for k in range(1, p):
        multiple = [k * a % p for a in row]
        if is_point(multiple):
            return multiple
    return None


def expected_normal(p, row):
    """What is answered where a row's one form is asked for."""
    form = one_form_by_search(p, row)
    return [0] if form is None else [1] + form


def lies_on(p, v, l):
    """Whether the point lies on the line, by the document's sum."""
    total = 0
    for a, x in zip(l, v):
        total += a * x
    return total % p == 0


def determinant(p, u, v, w):
    """The determinant of three rows, as the sum over the six ways through them."""
    return (u[0] * v[1] * w[2] + u[1] * v[2] * w[0] + u[2] * v[0] * w[1]
            - u[2] * v[1] * w[0] - u[1] * v[0] * w[2] - u[0] * v[2] * w[1]) % p


def lines_of_three(p, points):
    """The triples of places at which three points lie on a line."""
    return [places for places in itertools.combinations(range(len(points)), 3)
            if determinant(p, *[points[k] for k in places]) == 0]


def are_arc(p, points):
    """Whether the points are different and no three lie on a line, by all pairs and triples."""
    pairs = itertools.combinations(points, 2)
    return all(u != v for u, v in pairs) and lines_of_three(p, points) == []


def arcs_without_end(p, n):
    """Rows of n points, no three on a line, one row after another; p must have such."""
    points = points_by_search(p)
    numbers = mixed_numbers(p + n)
    while True:
        arc = []
        tries = 0
        while len(arc) < n and tries < 100 * n:
            v = points[next(numbers) % len(points)]
            tries += 1
            if are_arc(p, arc + [v]):
                arc.append(v)
        if len(arc) == n:
            yield arc


def some_arcs(p, n, how_many):
    """That many rows of n points, no three on a line; p must have such."""
    return list(itertools.islice(arcs_without_end(p, n), how_many))


def nearly_arc(p, n, places):
    """n different points of which the three at the places lie on a line, and no other three."""
    for arc in arcs_without_end(p, n):
        for v in points_by_search(p):
            points = list(arc)
            points[places[2]] = v
            if v not in arc and lines_of_three(p, points) == [tuple(places)]:
                return points


def conic_value(p, c, v):
    """The sum that is 0 if v lies on the conic c; products of two of x, y, z stand as they do in c's numbers."""
    pairs = itertools.combinations_with_replacement(v, 2)
    return sum(a * s * t for a, (s, t) in zip(c, pairs)) % p


def conic_points(p):
    """The p + 1 points for which y y is x z."""
    return [[0, 0, 1]] + [[1, t, t * t % p] for t in range(p)]


def flat(points):
    """The points one behind another, three numbers each."""
    return [a for v in points for a in v]


def check_numbers(case, answer):
    """The answer is a list of int, and a bool is not one."""
    case.assertIs(type(answer), list)
    for a in answer:
        case.assertIs(type(a), int)


class Untouched(list):
    """A list that tells at once of any try to change it, even of one that is undone later."""


def refuse(self, *args, **kwargs):
    raise AssertionError("a list that was handed in is changed")


for name in ["__setitem__", "__delitem__", "__iadd__", "__imul__", "append", "clear", "extend",
             "insert", "pop", "remove", "reverse", "sort"]:
    setattr(Untouched, name, refuse)
