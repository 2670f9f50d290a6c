"""The examples in README.md answer as it says."""

import pathlib
import unittest

README = pathlib.Path(__file__).resolve().parent.parent / "README.md"


class ReadmeTest(unittest.TestCase):
    def test_examples(self):
        example = README.read_text(encoding="utf-8").split("```python\n")[1].split("```")[0]
        names = {}
        answers = 0
        for line in example.splitlines():
            if " # " in line:
                call, told = line.split(" # ")
                self.assertEqual(str(eval(call, names)), told, line)
                answers += 1
            else:
                exec(line, names)
        self.assertGreater(answers, 12)


if __name__ == "__main__":
    unittest.main()
