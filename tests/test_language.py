"""Holds the package's files to the rules of the language it is written in, as far as a tree shows them."""

import ast
import builtins
import pathlib
import re
import unittest

PACKAGE = pathlib.Path(__file__).resolve().parent.parent / "gradecut"

NODES = {
    "Module", "ImportFrom", "alias", "FunctionDef", "arguments", "arg", "Lambda", "ClassDef",
    "Assign", "AugAssign", "If", "While", "For", "Return", "Break", "Continue", "Pass", "Raise", "Try",
    "ExceptHandler", "Expr", "Constant", "List", "Tuple", "Dict", "Set", "BinOp", "UnaryOp", "BoolOp",
    "Compare", "IfExp", "Call", "keyword", "Attribute", "Subscript", "Slice", "ListComp", "comprehension",
    "JoinedStr", "FormattedValue", "Name", "Load", "Store",
    "Add", "Sub", "Mult", "FloorDiv", "Mod", "Pow", "BitAnd", "BitOr", "BitXor", "Invert", "LShift", "RShift",
    "USub", "UAdd", "Not", "And", "Or",
    "Eq", "NotEq", "Lt", "LtE", "Gt", "GtE", "Is", "IsNot", "In", "NotIn",
}
OWN_NAMES = set(
    "len range enumerate zip min max sum abs sorted reversed int str bool list tuple dict set frozenset "
    "isinstance ord repr any all divmod Exception ValueError TypeError KeyError IndexError LookupError "
    "ZeroDivisionError ArithmeticError OverflowError RuntimeError NotImplementedError AttributeError "
    "StopIteration".split()
)
SPECIAL_METHODS = {"__init__", "__eq__", "__repr__", "__str__", "__len__"}
UNUSED_WORDS = re.compile(
    r"\b(type|typing|typing_extensions|enum|Enum|IntEnum|StrEnum|Flag|IntFlag|Generic|Protocol|ABC|ABCMeta|"
    r"namedtuple|NamedTuple|TypedDict|TYPE_CHECKING|abstractmethod)\b|dataclass|overload|contextmanager"
)


def node_faults(tree):
    for node in ast.walk(tree):
        kind = node.__class__.__name__
        line = getattr(node, "lineno", 0)
        if kind not in NODES:
            yield f"{line}: {kind}"
        if isinstance(node, ast.Constant) and not isinstance(node.value, (int, str, type(None))):
            yield f"{line}: a value that is no whole number and no text"
        if isinstance(node, ast.Assign) and len(node.targets) != 1:
            yield f"{line}: more than one target"
        if isinstance(node, (ast.For, ast.While)) and node.orelse:
            yield f"{line}: else behind a loop"
        if isinstance(node, ast.Try) and node.finalbody:
            yield f"{line}: finally"
        if isinstance(node, ast.BinOp) and isinstance(node.op, ast.Pow) and not written_exponent(node.right):
            yield f"{line}: an exponent that is not written out"
        if isinstance(node, ast.FunctionDef):
            yield from function_faults(node)


def written_exponent(node):
    return isinstance(node, ast.Constant) and isinstance(node.value, int) and 0 <= node.value <= 64


def function_faults(node):
    arguments = node.args
    if arguments.vararg or arguments.kwarg or arguments.kwonlyargs or arguments.posonlyargs or node.decorator_list:
        yield f"{node.lineno}: more than plain parameters"
    if node.end_lineno - node.lineno + 1 > 40:
        yield f"{node.lineno}: a function of more than 40 lines"


def bound_names(tree):
    for node in ast.walk(tree):
        if isinstance(node, (ast.FunctionDef, ast.ClassDef)):
            yield node.name
        elif isinstance(node, ast.arg):
            yield node.arg
        elif isinstance(node, ast.Name) and isinstance(node.ctx, ast.Store):
            yield node.id
        elif isinstance(node, ast.alias):
            yield node.asname or node.name
        elif isinstance(node, ast.ExceptHandler) and node.name:
            yield node.name


def name_faults(tree):
    bound = set(bound_names(tree))
    for name in sorted(bound):
        if not re.fullmatch(r"[A-Za-z][A-Za-z0-9_]*", name) and name not in SPECIAL_METHODS:
            yield f"the name {name}"
        if hasattr(builtins, name):
            yield f"{name} is a name of Python's own"
    for node in ast.walk(tree):
        if isinstance(node, ast.Name) and node.id not in bound and node.id not in OWN_NAMES:
            yield f"{node.lineno}: the name {node.id} is not at hand"


def import_faults(tree):
    for node in ast.walk(tree):
        if not isinstance(node, ast.ImportFrom):
            continue
        source = PACKAGE / (str(node.module).partition("gradecut.")[2] + ".py")
        if node.level or not str(node.module).startswith("gradecut.") or not source.is_file():
            yield f"{node.lineno}: an import from outside the package"
            continue
        top = ast.parse(source.read_text()).body
        defined = {name for part in top if not isinstance(part, ast.ImportFrom) for name in bound_names(part)}
        for alias in node.names:
            if alias.name not in defined:
                yield f"{node.lineno}: {alias.name} is not defined there"


def text_faults(text):
    rows = text.split("\n")
    if len(rows) > 400:
        yield "a file of more than 400 lines"
    for number, row in enumerate(rows, 1):
        if len(row) > 120:
            yield f"{number}: more than 120 signs"
        if not all(" " <= sign <= "~" for sign in row):
            yield f"{number}: a sign that is not from the blank to ~"
        if UNUSED_WORDS.search(row):
            yield f"{number}: a word that is not used"


def faults(text):
    tree = ast.parse(text)
    return [*text_faults(text), *node_faults(tree), *name_faults(tree), *import_faults(tree)]


class LanguageTest(unittest.TestCase):
    def test_the_folder_holds_plain_files_alone(self):
        for path in PACKAGE.rglob("*"):
            if "__pycache__" not in path.parts:
                self.assertRegex(path.name, r"\A([a-z][a-z0-9_]*|__init__)\.py\Z")
        self.assertTrue((PACKAGE / "__init__.py").is_file())

    def test_each_file_keeps_to_the_rules(self):
        for path in sorted(PACKAGE.rglob("*.py")):
            with self.subTest(path.name):
                self.assertEqual(faults(path.read_text()), [])

    def test_code_outside_the_rules_is_seen(self):
        outside = (
            "import math\n", "from math import isqrt\n", "from . import errors\n",
            "from gradecut.shares import square\n", "A = 1.5\n", "def f(a):\n    return a / 2\n",
            "def f(*a):\n    return a\n", "def f(n):\n    return 2 ** n\n", "def f(a):\n    return open(a)\n",
            "def f(a):\n    b = c = a\n    return b\n", "def f(a):\n    yield a\n", "def f(a):\n    assert a\n",
            "def f(a):\n    for b in a:\n        pass\n    else:\n        pass\n", "def _f(a):\n    return a\n",
            "def f(a):\n    hash = a\n    return hash\n", "# which type\n", "A = 1\t\n", "def f(a):\n" + "    a = 1\n" * 40,
        )
        for text in outside:
            with self.subTest(text):
                self.assertNotEqual(faults(text), [])


if __name__ == "__main__":
    unittest.main()
