"""The interface's last paragraph: the package prints, reads and imports nothing."""

import ast
import pathlib
import unittest

PACKAGE = pathlib.Path(__file__).resolve().parent.parent / "byterows"
SOURCES = sorted(PACKAGE.rglob("*.py"))


class PackageTest(unittest.TestCase):
    def nodes(self):
        self.assertIn(PACKAGE / "rows.py", SOURCES)
        for source in SOURCES:
            yield from ast.walk(ast.parse(source.read_text(encoding="ascii")))

    def test_imports_nothing(self):
        for node in self.nodes():
            self.assertNotIsInstance(node, (ast.Import, ast.ImportFrom))

    def test_prints_and_reads_nothing(self):
        names = [node.id for node in self.nodes() if isinstance(node, ast.Name)]
        for name in ("print", "input", "open", "eval", "exec"):
            self.assertNotIn(name, names)
        self.assertFalse([name for name in names if name.startswith("__")])

    def test_has_no_place_to_keep_anything(self):
        for node in self.nodes():
            self.assertNotIsInstance(node, (ast.Global, ast.Nonlocal))
            if isinstance(node, ast.FunctionDef):
                for default in node.args.defaults:
                    self.assertIsInstance(default, ast.Constant)


if __name__ == "__main__":
    unittest.main()
