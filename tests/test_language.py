"""The package keeps to its small part of Python: what can be seen in the files without running them."""

import ast
import builtins
import pathlib
import re
import unittest

PACKAGE = pathlib.Path(__file__).resolve().parent.parent / "finiteplanes"

ALLOWED_BUILTINS = """len range enumerate zip min max sum abs sorted reversed int str bool list tuple dict set
frozenset isinstance ord repr any all divmod Exception ValueError TypeError KeyError IndexError LookupError
ZeroDivisionError ArithmeticError OverflowError RuntimeError NotImplementedError AttributeError
StopIteration""".split()

ALLOWED_METHODS = """append clear copy count endswith extend find get index insert items join keys pop remove
replace reverse setdefault split update values""".split()

BANNED_NODES = (ast.Import, ast.ImportFrom, ast.With, ast.Match, ast.Delete, ast.Global, ast.Nonlocal, ast.Assert,
                ast.Yield, ast.YieldFrom, ast.AsyncFunctionDef, ast.Await, ast.GeneratorExp, ast.SetComp,
                ast.DictComp, ast.NamedExpr, ast.Starred, ast.Div)

BANNED_WORDS = """type typing typing_extensions enum Enum IntEnum StrEnum Flag IntFlag Generic Protocol ABC ABCMeta
namedtuple NamedTuple TypedDict TYPE_CHECKING abstractmethod""".split()


def package_files():
    return sorted(path for path in PACKAGE.rglob("*") if path.is_file() and "__pycache__" not in path.parts)


def names_bound(tree):
    """Every name that the file gives: parameters, locals, functions."""
    bound = []
    for node in ast.walk(tree):
        if isinstance(node, ast.arg):
            bound.append(node.arg)
        if isinstance(node, ast.Name) and isinstance(node.ctx, ast.Store):
            bound.append(node.id)
        if isinstance(node, (ast.FunctionDef, ast.ClassDef)):
            bound.append(node.name)
    return bound


class LanguageTest(unittest.TestCase):
    def trees(self):
        return [ast.parse(path.read_text(encoding="utf-8")) for path in package_files()]

    def test_files(self):
        names = [path.name for path in package_files()]
        self.assertIn("__init__.py", names)
        self.assertIn("planes.py", names)
        for name in names:
            self.assertRegex(name, r"^[a-z_][a-z0-9_]*\.py$")

    def test_signs_and_sizes(self):
        for path in package_files():
            text = path.read_bytes().decode("ascii")
            self.assertTrue(all(sign == "\n" or " " <= sign <= "~" for sign in text))
            self.assertLessEqual(len(text.splitlines()), 400)
            self.assertLessEqual(max(len(line) for line in text.splitlines()), 120)

    def test_functions_are_short(self):
        for tree in self.trees():
            for node in ast.walk(tree):
                if isinstance(node, ast.FunctionDef):
                    self.assertLessEqual(node.end_lineno - node.lineno + 1, 40, node.name)
                    self.assertEqual(node.decorator_list, [])

    def test_nothing_banned_and_nothing_imported(self):
        for tree in self.trees():
            for node in ast.walk(tree):
                self.assertNotIsInstance(node, BANNED_NODES)

    def test_top_of_a_file(self):
        for tree in self.trees():
            self.assertIsNotNone(ast.get_docstring(tree))
            for node in tree.body[1:]:
                self.assertIsInstance(node, (ast.FunctionDef, ast.Assign))

    def test_names(self):
        for tree in self.trees():
            for name in names_bound(tree):
                self.assertRegex(name, r"^[A-Za-z][A-Za-z0-9_]*$")
                self.assertNotIn(name, dir(builtins))
            for node in ast.walk(tree):
                if isinstance(node, ast.Name) and node.id in dir(builtins):
                    self.assertIn(node.id, ALLOWED_BUILTINS)
                if isinstance(node, ast.Attribute):
                    self.assertIn(node.attr, ALLOWED_METHODS)

    def test_words(self):
        for path in package_files():
            words = re.findall(r"\w+", path.read_text(encoding="utf-8"))
            self.assertEqual([word for word in words if word in BANNED_WORDS], [])


if __name__ == "__main__":
    unittest.main()
