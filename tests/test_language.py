"""Tests that the package's files keep to those rules of the language that can be seen row by row."""

import ast
import builtins
import pathlib
import re
import unittest

PACKAGE = pathlib.Path(__file__).resolve().parent.parent / "paperweb"
FILE_NAME = re.compile(r"(?:[a-z][a-z0-9_]*|__init__|__main__)\.py")
PLAIN_NAME = re.compile(r"[A-Za-z][A-Za-z0-9_]*")
METHODS = {"__init__", "__eq__", "__repr__", "__str__", "__len__"}
NODES = set("""
    Module FunctionDef ClassDef arguments arg Lambda
    Assign AugAssign If While For Return Break Continue Pass Raise Try ExceptHandler Expr ImportFrom alias
    Constant Name Attribute Subscript Slice List Tuple Dict Set ListComp comprehension JoinedStr FormattedValue
    BinOp UnaryOp BoolOp Compare IfExp Call keyword Load Store
    Add Sub Mult FloorDiv Mod Pow BitOr BitAnd BitXor LShift RShift Invert UAdd USub Not And Or
    Eq NotEq Lt LtE Gt GtE In NotIn Is IsNot
""".split())
OWN_NAMES = set("""
    len range enumerate zip min max sum abs sorted reversed int str bool list tuple dict set frozenset isinstance
    ord repr any all divmod Exception ValueError TypeError KeyError IndexError LookupError ZeroDivisionError
    ArithmeticError OverflowError RuntimeError NotImplementedError AttributeError StopIteration
""".split())
WORDS_LEFT_OUT = re.compile(
    r"\b(?:type|typing|typing_extensions|enum|Enum|IntEnum|StrEnum|Flag|IntFlag|Generic|Protocol|ABC|ABCMeta"
    r"|namedtuple|NamedTuple|TypedDict|TYPE_CHECKING|abstractmethod)\b|dataclass|overload|contextmanager")
INTERFACE = {
    "good": ["lo", "hi", "sections"],
    "spread": ["sections"],
    "runs": ["lo", "hi", "p", "sections"],
    "rolls": ["lo", "hi", "p", "j", "n", "sections"],
}


def files():
    return sorted(path for path in PACKAGE.rglob("*") if path.is_file() and "__pycache__" not in path.parts)


def nodes(kinds):
    for path in files():
        for node in ast.walk(ast.parse(path.read_text("utf-8"))):
            if isinstance(node, kinds):
                yield path.name, node


class Files(unittest.TestCase):
    def test_the_folder_holds_plain_python_files_alone(self):
        self.assertIn(PACKAGE / "__init__.py", files())
        for path in files():
            self.assertRegex(path.name, FILE_NAME)
            self.assertEqual(path.parent, PACKAGE)

    def test_signs(self):
        for path in files():
            text = path.read_bytes().decode("utf-8")
            strange = [sign for sign in text if sign != "\n" and not " " <= sign <= "~"]
            self.assertEqual(strange, [], path.name)

    def test_sizes(self):
        for path in files():
            rows = path.read_text("utf-8").splitlines()
            self.assertLessEqual(len(rows), 399, path.name)
            self.assertLessEqual(max(map(len, rows)), 120, path.name)
        for name, node in nodes(ast.FunctionDef):
            self.assertLessEqual(node.end_lineno - node.lineno + 1, 40, (name, node.name))

    def test_words_left_out(self):
        for path in files():
            self.assertNotRegex(path.read_text("utf-8"), WORDS_LEFT_OUT)


class Forms(unittest.TestCase):
    def test_only_forms_of_the_language(self):
        for name, node in nodes(ast.AST):
            self.assertIn(node.__class__.__name__, NODES, (name, getattr(node, "lineno", None)))

    def test_a_statement_by_itself_is_a_call_or_the_docstring_of_a_file(self):
        for path in files():
            tree = ast.parse(path.read_text("utf-8"))
            for node in ast.walk(tree):
                if isinstance(node, ast.Expr) and node is not tree.body[0]:
                    self.assertIsInstance(node.value, ast.Call, (path.name, node.lineno))

    def test_no_decorator_star_or_default(self):
        for name, node in nodes(ast.FunctionDef):
            given = node.args
            strange = [node.decorator_list, given.vararg, given.kwarg, given.kwonlyargs, given.posonlyargs]
            self.assertFalse(any(strange), (name, node.name))

    def test_plain_values(self):
        for name, node in nodes(ast.Constant):
            self.assertIn(node.value.__class__, (int, str, bool, None.__class__), (name, node.lineno))


class Names(unittest.TestCase):
    def test_pythons_own_names(self):
        for name, node in nodes(ast.Name):
            if hasattr(builtins, node.id):
                self.assertIn(node.id, OWN_NAMES, (name, node.lineno))
                self.assertIsInstance(node.ctx, ast.Load, (name, node.lineno))

    def test_bound_names(self):
        bound = [(name, node.arg) for name, node in nodes(ast.arg)]
        bound += [(name, node.name) for name, node in nodes((ast.FunctionDef, ast.ClassDef))]
        bound += [(name, node.id) for name, node in nodes(ast.Name) if isinstance(node.ctx, ast.Store)]
        for name, word in bound:
            if word not in METHODS:
                self.assertRegex(word, PLAIN_NAME, name)
                self.assertFalse(word.startswith("_") or hasattr(builtins, word), (name, word))

    def test_imports_are_of_the_package_alone(self):
        for name, node in nodes(ast.ImportFrom):
            self.assertEqual(node.level, 0, (name, node.lineno))
            self.assertTrue(node.module.startswith("paperweb."), (name, node.lineno))

    def test_no_import_within_a_function(self):
        for name, node in nodes(ast.FunctionDef):
            inner = [part for part in ast.walk(node) if isinstance(part, (ast.Import, ast.ImportFrom))]
            self.assertEqual(inner, [], (name, node.name))


class Interface(unittest.TestCase):
    def test_each_function_is_written_in_rolls_alone(self):
        for wanted, parameters in INTERFACE.items():
            found = [(name, node) for name, node in nodes((ast.FunctionDef, ast.ClassDef)) if node.name == wanted]
            self.assertEqual([name for name, node in found], ["rolls.py"])
            self.assertEqual([arg.arg for arg in found[0][1].args.args], parameters)
            self.assertEqual(found[0][1].args.defaults, [])


if __name__ == "__main__":
    unittest.main()
