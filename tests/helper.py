"""What several tests need: primes, points found by a plain search, and lists that may not be changed."""

PRIMES = [2, 3, 5, 7, 11, 13, 17, 19, 23, 29, 31, 37, 41, 43, 47, 53, 59, 61]


def is_point(row):
    """Whether the first number of the row that isn't 0 is a 1."""
    others = [a for a in row if a != 0]
    return others[:1] == [1]


def points_by_search(p):
    """Every point, in order: rows are made with the first number running slowest."""
    rows = [[x, y, z] for x in range(p) for y in range(p) for z in range(p)]
    return [row for row in rows if is_point(row)]


def check_numbers(case, answer):
    """The answer is a list of int, and a bool is not one."""
    case.assertIs(type(answer), list)
    for a in answer:
        case.assertIs(type(a), int)


class Untouched(list):
    """A list that tells at once of any try to change it, even of one that is undone later."""


def refuse(self, *args, **kwargs):
    raise AssertionError("a list that was handed in is changed")


for name in ["__setitem__", "__delitem__", "__iadd__", "__imul__", "append", "clear", "extend",
             "insert", "pop", "remove", "reverse", "sort"]:
    setattr(Untouched, name, refuse)
