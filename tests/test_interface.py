"""What the interface says of every call: kinds, parameters, nothing changed, nothing kept, nothing printed."""

import contextlib
import inspect
import io
import sys
import unittest

import finiteplanes.planes as planes
from tests.helper import PRIMES, Untouched, check_numbers, conic_points, flat

PARAMETERS = {
    "normal": ["p", "v"],
    "number": ["p", "v"],
    "point": ["p", "i"],
    "join": ["p", "u", "v"],
    "on": ["p", "v", "l"],
    "moved": ["p", "m", "v"],
    "taken": ["p", "from_points", "to_points"],
    "ratio": ["p", "points"],
    "through": ["p", "points"],
    "count": ["p", "c"],
    "polar": ["p", "c", "v"],
    "arc": ["p", "n", "points"],
    "more": ["p", "n", "points"],
}


def some_calls():
    """Pairs of a call's name and what it's handed, from every prime, with every way a call can answer."""
    calls = []
    for p in PRIMES:
        for v in [[0, 0, 0], [p - 1, 1, 0], [0, p - 1, 1], [0, 0, p - 1], [1, p - 1, p - 1]]:
            calls.append(("normal", [p, v]))
        for v in [[0, 0, 1], [0, 1, 0], [0, 1, p - 1], [1, 0, 0], [1, p - 1, 1]]:
            calls.append(("number", [p, v]))
        for i in [0, 1, p, p + 1, p * p + p, p * p + p + 1, 2147483647]:
            calls.append(("point", [p, i]))
        for u, v in [([1, 0, p - 1], [0, p - 1, 1]), ([1, 1, p - 1], [1, 1, p - 1]), ([0, 0, 0], [1, 0, 0])]:
            calls.append(("join", [p, u, v]))
        for v, l in [([1, 0, 1], [0, p - 1, 0]), ([1, 0, 0], [p - 1, 0, 1]), ([0, 0, 0], [0, 0, 1])]:
            calls.append(("on", [p, v, l]))
        for m, v in [([p - 1] * 9, [1, 0, 0]), ([0, 1, 0, 0, 0, 1, p - 1, 0, 0], [1, 1, 0]), ([1] * 9, [1, p - 1, 0])]:
            calls.append(("moved", [p, m, v]))
        for c in [[0] * 6, [p - 1] * 6, [0, 0, 1, p - 1, 0, 0]]:
            calls.append(("count", [p, c]))
            calls.append(("polar", [p, c, [1, 1, 1]]))
        calls += calls_with_points(p)
    return calls


def calls_with_points(p):
    """The same for those calls that are handed several points in one list."""
    corners = [1, 0, 0, 0, 1, 0, 0, 0, 1, 1, 1, 1]
    others = [0, 1, 0, 0, 0, 1, 1, 1, 1, 1, 0, 0]
    calls = [("taken", [p, corners, others]), ("taken", [p, others, corners])]
    calls += [("taken", [p, corners, others[:9] + [0, 1, 1]]), ("taken", [p, corners[:9] + [0, 0, 1], others])]
    for d in [[1, p - 1, 0], [1, 0, 0], [0, 0, 1]]:
        calls.append(("ratio", [p, [1, 0, 0, 0, 1, 0, 1, 1, 0] + d]))
    for k in [3, 1]:
        calls.append(("through", [p, [0, 0, 1, 1, 0, 0, 1, 1, 1, 1, 2 % p, 4 % p, 1, k % p, k * k % p]]))
    for points in [[], [1, p - 1, 0], corners, corners + others, [0, 0, 1] * 64, flat(conic_points(p))]:
        calls.append(("arc", [p, len(points) // 3, points]))
        calls.append(("more", [p, len(points) // 3, points]))
    return calls


def copied(handed):
    return [list(a) if isinstance(a, list) else a for a in handed]


def answer(name, handed):
    return getattr(planes, name)(*handed)


def deepest(name, handed):
    """How many calls of the program stand within one another at most."""
    depth = 0
    most = 0

    def watch(frame, event, argument):
        nonlocal depth, most
        if frame.f_code.co_filename == planes.__file__ and event in ("call", "return"):
            depth += 1 if event == "call" else -1
            most = max(most, depth)

    sys.setprofile(watch)
    try:
        answer(name, handed)
    finally:
        sys.setprofile(None)
    return most


class InterfaceTest(unittest.TestCase):
    def test_names_and_parameters(self):
        self.assertEqual(len(PARAMETERS), 13)
        for name in PARAMETERS:
            signature = inspect.signature(getattr(planes, name))
            self.assertEqual(list(signature.parameters), PARAMETERS[name])
            for parameter in signature.parameters.values():
                self.assertEqual(parameter.kind, parameter.POSITIONAL_OR_KEYWORD)
                self.assertIs(parameter.default, parameter.empty)

    def test_every_call_is_among_those_tried(self):
        self.assertEqual({name for name, handed in some_calls()}, set(PARAMETERS))

    def test_by_keyword(self):
        for name, handed in some_calls():
            named = dict(zip(PARAMETERS[name], handed))
            self.assertEqual(getattr(planes, name)(**named), answer(name, handed))

    def test_answers_are_lists_of_int(self):
        for name, handed in some_calls():
            check_numbers(self, answer(name, handed))

    def test_what_is_handed_in_stays(self):
        for name, handed in some_calls():
            before = copied(handed)
            answer(name, handed)
            self.assertEqual(handed, before)

    def test_what_is_handed_in_is_not_changed_for_a_while(self):
        for name, handed in some_calls():
            watched = [Untouched(a) if isinstance(a, list) else a for a in handed]
            self.assertEqual(answer(name, watched), answer(name, handed))

    def test_the_answer_is_a_list_of_its_own(self):
        for name, handed in some_calls():
            before = copied(handed)
            first = answer(name, handed)
            kept = list(first)
            for k in range(len(first)):
                first[k] = -7
            first.append(-7)
            self.assertEqual(handed, before)
            self.assertEqual(answer(name, handed), kept)

    def test_called_again_it_answers_the_same(self):
        calls = some_calls()
        first = [answer(name, handed) for name, handed in calls]
        again = [answer(name, handed) for name, handed in calls]
        backwards = [answer(name, handed) for name, handed in reversed(calls)]
        self.assertEqual(again, first)
        self.assertEqual(backwards[::-1], first)

    def test_a_call_between_two_equal_calls_changes_nothing(self):
        for p in [3, 7]:
            calls = [call for call in some_calls() if call[1][0] == p]
            for name, handed in calls:
                first = answer(name, handed)
                for other, other_handed in calls:
                    answer(other, other_handed)
                    self.assertEqual(answer(name, handed), first, (name, handed, other, other_handed))

    def test_the_same_call_in_another_plane_changes_nothing(self):
        corners = [1, 0, 0, 0, 1, 0, 0, 0, 1, 1, 1, 1]
        for name, rest in [("normal", [[0, 1, 1]]), ("number", [[1, 1, 0]]), ("point", [7]),
                           ("join", [[1, 1, 0], [0, 1, 1]]), ("on", [[1, 1, 1], [1, 1, 1]]),
                           ("moved", [[1] * 9, [1, 1, 0]]), ("taken", [corners, corners]), ("ratio", [corners]),
                           ("through", [corners + [0, 1, 1]]), ("count", [[1] * 6]), ("polar", [[1] * 6, [1, 1, 0]]),
                           ("arc", [4, corners]), ("more", [4, corners])]:
            first = [answer(name, [p] + rest) for p in PRIMES]
            self.assertEqual([answer(name, [p] + rest) for p in PRIMES[::-1]], first[::-1])

    def test_calls_are_not_as_deep_as_the_input_is_long(self):
        for name, handed in some_calls():
            if handed[0] in (2, 11, 61):
                self.assertIn(deepest(name, handed), range(1, 10), (name, handed))

    def test_nothing_is_printed(self):
        out = io.StringIO()
        err = io.StringIO()
        with contextlib.redirect_stdout(out), contextlib.redirect_stderr(err):
            for name, handed in some_calls():
                answer(name, handed)
        self.assertEqual(out.getvalue() + err.getvalue(), "")


if __name__ == "__main__":
    unittest.main()
