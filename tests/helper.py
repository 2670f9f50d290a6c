"""What several tests need: primes, points found by a plain search, and lists that may not be changed."""

import itertools

PRIMES = [2, 3, 5, 7, 11, 13, 17, 19, 23, 29, 31, 37, 41, 43, 47, 53, 59, 61]


def is_point(row):
    """Whether the first number of the row that isn't 0 is a 1."""
    others = [a for a in row if a != 0]
    return others[:1] == [1]


def points_by_search(p):
    """Every point, in order: rows are made with the first number running slowest."""
    rows = [[x, y, z] for x in range(p) for y in range(p) for z in range(p)]
    return [row for row in rows if is_point(row)]


def all_rows(p, length):
    """Every row of that many numbers."""
    return [list(row) for row in itertools.product(range(p), repeat=length)]


def some_rows(p, length, how_many):
    """Rows that look mixed and are the same at each run, some of their numbers 0."""
    rows = []
    state = 12345 + p
    for k in range(how_many):
        row = []
        for place in range(length):
            state = (state * 1103515245 + 12345) % 2147483648
            row.append(0 if state % 65536 < 8192 else state // 65536 % p)
        rows.append(row)
    return rows


def one_form_by_search(p, row):
    """The one multiple of the row whose first number that isn't 0 is a 1; None if the row is all 0."""
    for k in range(1, p):
        multiple = [k * a % p for a in row]
        if is_point(multiple):
            return multiple
    return None


def expected_normal(p, row):
    """What is answered where a row's one form is asked for."""
    form = one_form_by_search(p, row)
    return [0] if form is None else [1] + form


def lies_on(p, v, l):
    """Whether the point lies on the line, by the document's sum."""
    total = 0
    for a, x in zip(l, v):
        total += a * x
    return total % p == 0


def check_numbers(case, answer):
    """The answer is a list of int, and a bool is not one."""
    case.assertIs(type(answer), list)
    for a in answer:
        case.assertIs(type(a), int)


class Untouched(list):
    """A list that tells at once of any try to change it, even of one that is undone later."""


def refuse(self, *args, **kwargs):
    raise AssertionError("a list that was handed in is changed")


for name in ["__setitem__", "__delitem__", "__iadd__", "__imul__", "append", "clear", "extend",
             "insert", "pop", "remove", "reverse", "sort"]:
    setattr(Untouched, name, refuse)
