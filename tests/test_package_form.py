"""The package reads and imports nothing from outside, and keeps to the plain form of its code."""

import ast
import pathlib
import unittest

from shortpair import desk

FOLDER = pathlib.Path(desk.__file__).resolve().parent
FILES = sorted(FOLDER.glob("*.py"))
OUTSIDE_NAMES = ("print", "open", "input", "exec", "eval", "compile", "getattr", "globals", "sys", "os")


def nodes_of(path):
    return list(ast.walk(ast.parse(path.read_text(encoding="utf-8"))))


class Form(unittest.TestCase):
    def test_the_folder_holds_plain_python_files_alone(self):
        self.assertTrue((FOLDER / "__init__.py").is_file())
        names = [path.name for path in FOLDER.iterdir() if path.name != "__pycache__"]
        self.assertEqual(sorted(names), [path.name for path in FILES])

    def test_imports_are_the_package_s_own(self):
        for path in FILES:
            for node in nodes_of(path):
                self.assertNotIsInstance(node, ast.Import, path.name)
                if isinstance(node, ast.ImportFrom):
                    self.assertEqual(node.level, 0, path.name)
                    self.assertTrue(node.module.startswith("shortpair."), path.name)

    def test_no_name_reaches_outside(self):
        for path in FILES:
            for node in nodes_of(path):
                if isinstance(node, ast.Name):
                    self.assertNotIn(node.id, OUTSIDE_NAMES, path.name)

    def test_whole_numbers_alone(self):
        for path in FILES:
            for node in nodes_of(path):
                self.assertNotIsInstance(node, ast.Div, path.name)
                if isinstance(node, ast.Constant):
                    self.assertNotIsInstance(node.value, (float, complex, bytes), path.name)

    def test_signs_and_sizes(self):
        for path in FILES:
            rows = path.read_bytes().decode("utf-8").split("\n")
            self.assertLessEqual(len(rows), 400, path.name)
            for row in rows:
                self.assertLessEqual(len(row), 120, path.name)
                self.assertTrue(all(" " <= sign <= "~" for sign in row), path.name)
            for node in nodes_of(path):
                if isinstance(node, ast.FunctionDef):
                    self.assertLessEqual(node.end_lineno - node.lineno + 1, 40, path.name)


if __name__ == "__main__":
    unittest.main()
