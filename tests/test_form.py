"""The form of the package's files: those rules of the language that a plain look at the code can tell."""

import ast
import builtins
import pathlib
import re
import unittest

PACKAGE = pathlib.Path(__file__).resolve().parent.parent / "sawteeth"

STATEMENTS = (
    ast.FunctionDef, ast.ClassDef, ast.Assign, ast.AugAssign, ast.If, ast.While, ast.For, ast.Return,
    ast.Break, ast.Continue, ast.Pass, ast.Raise, ast.Try, ast.Expr, ast.ImportFrom,
)
RULED_OUT = (
    ast.Div, ast.MatMult, ast.SetComp, ast.DictComp, ast.GeneratorExp, ast.NamedExpr, ast.Starred,
    ast.Yield, ast.YieldFrom, ast.Await,
)
OWN_NAMES = set(
    "len range enumerate zip min max sum abs sorted reversed int str bool list tuple dict set frozenset"
    " isinstance ord repr any all divmod Exception ValueError TypeError KeyError IndexError LookupError"
    " ZeroDivisionError ArithmeticError OverflowError RuntimeError NotImplementedError AttributeError"
    " StopIteration".split()
)
WORDS_RULED_OUT = re.compile(
    r"\b(type|typing|typing_extensions|enum|Enum|IntEnum|StrEnum|Flag|IntFlag|Generic|Protocol|ABC|ABCMeta"
    r"|namedtuple|NamedTuple|TypedDict|TYPE_CHECKING|abstractmethod)\b|dataclass|overload|contextmanager"
)


def files():
    return sorted(PACKAGE.rglob("*.py"))


def nodes():
    for path in files():
        for node in ast.walk(ast.parse(path.read_text(encoding="utf-8"))):
            yield f"{path.name}:{getattr(node, 'lineno', 0)}", node


class Files(unittest.TestCase):
    def test_python_files_alone(self):
        found = [p for p in PACKAGE.rglob("*") if "__pycache__" not in p.parts]
        self.assertEqual(sorted(found), files())
        self.assertIn(PACKAGE / "__init__.py", files())
        for path in files():
            self.assertRegex(path.name, r"\A(__init__|__main__|[a-z][a-z0-9_]*)\.py\Z")

    def test_signs_and_size(self):
        for path in files():
            with self.subTest(path=path.name):
                text = path.read_bytes().decode("ascii")
                self.assertRegex(text, r"\A[ -~\n]*\Z")
                rows = text.split("\n")
                self.assertLessEqual(len(rows), 400)
                self.assertLessEqual(max(len(row) for row in rows), 120)

    def test_words_that_stand_nowhere(self):
        for path in files():
            with self.subTest(path=path.name):
                self.assertIsNone(WORDS_RULED_OUT.search(path.read_text(encoding="ascii")))


class Code(unittest.TestCase):
    def test_statements_and_expressions(self):
        for place, node in nodes():
            with self.subTest(place=place):
                self.assertNotIsInstance(node, RULED_OUT)
                if isinstance(node, ast.stmt):
                    self.assertIsInstance(node, STATEMENTS)
                if isinstance(node, (ast.For, ast.While)):
                    self.assertEqual(node.orelse, [])
                if isinstance(node, ast.Assign):
                    self.assertEqual(len(node.targets), 1)
                if isinstance(node, ast.Constant):
                    self.assertNotIsInstance(node.value, (float, complex, bytes))

    def test_functions(self):
        for place, node in nodes():
            if isinstance(node, ast.FunctionDef):
                with self.subTest(place=place):
                    self.assertLessEqual(node.end_lineno - node.lineno + 1, 40)
                    self.assertEqual(node.decorator_list, [])
                    self.assertEqual((node.args.vararg, node.args.kwarg, node.args.kwonlyargs), (None, None, []))

    def test_imports_from_the_package_alone(self):
        for place, node in nodes():
            if isinstance(node, ast.ImportFrom):
                with self.subTest(place=place):
                    self.assertEqual(node.level, 0)
                    self.assertRegex(node.module, r"\Asawteeth\.")

    def test_names(self):
        for place, node in nodes():
            with self.subTest(place=place):
                if isinstance(node, ast.Name):
                    self.assertFalse(node.id.startswith("_"))
                    if hasattr(builtins, node.id):
                        self.assertIn(node.id, OWN_NAMES)
                        self.assertIsInstance(node.ctx, ast.Load)
                if isinstance(node, (ast.FunctionDef, ast.ClassDef)):
                    self.assertFalse(hasattr(builtins, node.name))
                if isinstance(node, ast.arg):
                    self.assertFalse(node.arg.startswith("_") or hasattr(builtins, node.arg))


if __name__ == "__main__":
    unittest.main()
