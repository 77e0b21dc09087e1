"""Holds the package's files to the rules of the language it is written in, as far as a tree shows them."""

import ast
import builtins
import pathlib
import re
import unittest

PACKAGE = pathlib.Path(__file__).resolve().parent.parent / "gradecut"

NODES = {
    "Module", "ImportFrom", "alias", "FunctionDef", "arguments", "arg", "Lambda", "ClassDef",
    "Assign", "AugAssign", "If", "While", "For", "Return", "Break", "Continue", "Pass", "Raise", "Try",
    "ExceptHandler", "Expr", "Constant", "List", "Tuple", "Dict", "Set", "BinOp", "UnaryOp", "BoolOp",
    "Compare", "IfExp", "Call", "keyword", "Attribute", "Subscript", "Slice", "ListComp", "comprehension",
    "JoinedStr", "FormattedValue", "Name", "Load", "Store",
    "Add", "Sub", "Mult", "FloorDiv", "Mod", "Pow", "BitAnd", "BitOr", "BitXor", "Invert", "LShift", "RShift",
    "USub", "UAdd", "Not", "And", "Or",
    "Eq", "NotEq", "Lt", "LtE", "Gt", "GtE", "Is", "IsNot", "In", "NotIn",
}
OWN_NAMES = set(
    "len range enumerate zip min max sum abs sorted reversed int str bool list tuple dict set frozenset "
    "isinstance ord repr any all divmod Exception ValueError TypeError KeyError IndexError LookupError "
    "ZeroDivisionError ArithmeticError OverflowError RuntimeError NotImplementedError AttributeError "
    "StopIteration".split()
)
OWN_METHODS = set(
    "append clear copy count endswith extend find get index insert isalnum isalpha isdigit islower isspace isupper "
    "items join keys ljust lower lstrip partition pop remove replace reverse rfind rjust rpartition rsplit rstrip "
    "setdefault split splitlines startswith strip update upper values zfill bit_length".split()
)
SPECIAL_METHODS = {"__init__", "__eq__", "__repr__", "__str__", "__len__"}
UNUSED_WORDS = re.compile(
    r"\b(type|typing|typing_extensions|enum|Enum|IntEnum|StrEnum|Flag|IntFlag|Generic|Protocol|ABC|ABCMeta|"
    r"namedtuple|NamedTuple|TypedDict|TYPE_CHECKING|abstractmethod)\b|dataclass|overload|contextmanager"
)


WALKED = {"zip", "enumerate", "reversed", "range", "items", "keys", "values"}
UNUSED_NAMES = set(
    "register mro elements open input version_info with_traceback add_note attrgetter breakpoint builtins compile "
    "copyright credits delattr dir eval exec exit gc getattr globals hasattr help id importlib license locals "
    "methodcaller os quit setattr super vars sys chr format format_map".split()
)


def node_faults(tree):
    for node in ast.walk(tree):
        kind = node.__class__.__name__
        line = getattr(node, "lineno", 0)
        if kind not in NODES:
            yield f"{line}: {kind}"
        if isinstance(node, ast.Constant) and not isinstance(node.value, (int, str, type(None))):
            yield f"{line}: a value that is no whole number and no text"
        if isinstance(node, ast.Assign) and len(node.targets) != 1:
            yield f"{line}: more than one target"
        if isinstance(node, (ast.For, ast.While)) and node.orelse:
            yield f"{line}: else behind a loop"
        if isinstance(node, ast.Try) and node.finalbody:
            yield f"{line}: finally"
        if isinstance(node, ast.BinOp) and isinstance(node.op, ast.Pow) and not written_exponent(node.right):
            yield f"{line}: an exponent that is not written out"
        if isinstance(node, ast.ListComp) and (len(node.generators) > 1 or len(node.generators[0].ifs) > 1):
            yield f"{line}: more than one for or if in a list"
        if isinstance(node, ast.Compare) and not is_beside_a_plain_value(node):
            yield f"{line}: is beside something else than None, True and False"
        if isinstance(node, (ast.Assign, ast.Return)) and called_name(node.value) in WALKED:
            yield f"{line}: what is walked at once is kept"
        if isinstance(node, ast.Constant) and isinstance(node.value, str) and "%" in node.value:
            yield f"{line}: the sign for a rest within a text"
        if {getattr(node, "id", ""), getattr(node, "attr", ""), getattr(node, "arg", "")} & UNUSED_NAMES:
            yield f"{line}: a name that is not used"
        if isinstance(node, ast.Try):
            yield from try_faults(node)
        if isinstance(node, ast.FunctionDef):
            yield from function_faults(node)
        if isinstance(node, ast.ClassDef):
            yield from class_faults(node)


def called_name(node):
    if not isinstance(node, ast.Call):
        return None
    return getattr(node.func, "id", getattr(node.func, "attr", None))


def try_faults(node):
    taken = {name.id for handler in node.handlers for name in ast.walk(handler.type) if isinstance(name, ast.Name)}
    calls = {called_name(part) for row in node.body for part in ast.walk(row) if isinstance(part, ast.Call)}
    if taken & {"Exception", "TypeError", "AttributeError"}:
        yield f"{node.lineno}: an error that is not taken"
    if taken & {"ValueError", "LookupError"} and (len(node.body) > 1 or not calls <= {"int", "str", "index", "remove"}):
        yield f"{node.lineno}: an error of Python's own round more than it may be taken round"


def is_beside_a_plain_value(node):
    pairs = zip(node.ops, node.comparators)
    beside = [right for kind, right in pairs if isinstance(kind, (ast.Is, ast.IsNot))]
    return all(isinstance(right, ast.Constant) and right.value in (None, True, False) for right in beside)


def class_faults(node):
    if len(node.bases) > 1 or node.keywords or node.decorator_list:
        yield f"{node.lineno}: more than one base"
    for part in node.body:
        docstring = isinstance(part, ast.Expr) and isinstance(part.value, ast.Constant)
        if not docstring and not isinstance(part, (ast.FunctionDef, ast.Pass)):
            yield f"{part.lineno}: something else than a method in a class"


def methods_of(tree):
    classes = [node for node in ast.walk(tree) if isinstance(node, ast.ClassDef)]
    return {part.name for node in classes for part in node.body if isinstance(part, ast.FunctionDef)}


def values_of(tree):
    attributes = [node for node in ast.walk(tree) if isinstance(node, ast.Attribute)]
    return {node.attr for node in attributes if isinstance(node.ctx, ast.Store)}


def package_trees():
    return [ast.parse(path.read_text()) for path in sorted(PACKAGE.rglob("*.py"))]


def method_faults(tree, trees):
    methods = set().union(*map(methods_of, trees))
    for node in ast.walk(tree):
        if isinstance(node, ast.Call) and isinstance(node.func, ast.Attribute):
            if node.func.attr not in methods | OWN_METHODS:
                yield f"{node.lineno}: the method {node.func.attr} is not at hand"
    for name in sorted(values_of(tree) & methods):
        yield f"{name} is a method and a value"


def written_exponent(node):
    return isinstance(node, ast.Constant) and isinstance(node.value, int) and 0 <= node.value <= 64


def function_faults(node):
    arguments = node.args
    if arguments.vararg or arguments.kwarg or arguments.kwonlyargs or arguments.posonlyargs or node.decorator_list:
        yield f"{node.lineno}: more than plain parameters"
    if node.end_lineno - node.lineno + 1 > 40:
        yield f"{node.lineno}: a function of more than 40 lines"


def bound_names(tree):
    for node in ast.walk(tree):
        if isinstance(node, (ast.FunctionDef, ast.ClassDef)):
            yield node.name
        elif isinstance(node, ast.arg):
            yield node.arg
        elif isinstance(node, ast.Name) and isinstance(node.ctx, ast.Store):
            yield node.id
        elif isinstance(node, ast.alias):
            yield node.asname or node.name
        elif isinstance(node, ast.ExceptHandler) and node.name:
            yield node.name


def name_faults(tree):
    bound = set(bound_names(tree))
    for name in sorted(bound):
        if not re.fullmatch(r"[A-Za-z][A-Za-z0-9_]*", name) and name not in SPECIAL_METHODS:
            yield f"the name {name}"
        if hasattr(builtins, name) and name not in SPECIAL_METHODS:
            yield f"{name} is a name of Python's own"
    for node in ast.walk(tree):
        if isinstance(node, ast.Name) and node.id not in bound and node.id not in OWN_NAMES:
            yield f"{node.lineno}: the name {node.id} is not at hand"


def top_faults(tree):
    imports = [alias.name for part in tree.body if isinstance(part, ast.ImportFrom) for alias in part.names]
    own = [name for part in tree.body if isinstance(part, (ast.FunctionDef, ast.ClassDef)) for name in [part.name]]
    values = [name for part in tree.body if isinstance(part, ast.Assign) for name in bound_names(part)]
    top = imports + own + values
    for name in sorted(set(top)):
        if top.count(name) > 1:
            yield f"{name} is bound twice at the top"
    classes = [part.name for part in tree.body if isinstance(part, ast.ClassDef)]
    for function in [node for node in ast.walk(tree) if isinstance(node, ast.FunctionDef)]:
        within = [name for part in [function.args, *function.body] for name in bound_names(part)]
        for name in sorted(set(within) & set(imports + classes)):
            yield f"{function.lineno}: {name} is called like an import or a class"


def import_faults(tree):
    for node in ast.walk(tree):
        if not isinstance(node, ast.ImportFrom):
            continue
        source = PACKAGE / (str(node.module).partition("gradecut.")[2] + ".py")
        if node.level or not str(node.module).startswith("gradecut.") or not source.is_file():
            yield f"{node.lineno}: an import from outside the package"
            continue
        top = ast.parse(source.read_text()).body
        defined = {name for part in top if not isinstance(part, ast.ImportFrom) for name in bound_names(part)}
        for alias in node.names:
            if alias.name not in defined:
                yield f"{node.lineno}: {alias.name} is not defined there"


def drawn_from(name):
    tree = ast.parse((PACKAGE / f"{name}.py").read_text())
    return {node.module.partition(".")[2] for node in tree.body if isinstance(node, ast.ImportFrom)}


def text_faults(text):
    rows = text.split("\n")
    if len(rows) > 400:
        yield "a file of more than 400 lines"
    for number, row in enumerate(rows, 1):
        if len(row) > 120:
            yield f"{number}: more than 120 signs"
        if not all(" " <= sign <= "~" for sign in row):
            yield f"{number}: a sign that is not from the blank to ~"
        if UNUSED_WORDS.search(row):
            yield f"{number}: a word that is not used"


def faults(text):
    tree = ast.parse(text)
    trees = [tree, *package_trees()]
    by_tree = [*node_faults(tree), *name_faults(tree), *top_faults(tree), *import_faults(tree)]
    return [*text_faults(text), *by_tree, *method_faults(tree, trees)]


class LanguageTest(unittest.TestCase):
    def test_the_folder_holds_plain_files_alone(self):
        for path in PACKAGE.rglob("*"):
            if "__pycache__" not in path.parts:
                self.assertRegex(path.name, r"\A([a-z][a-z0-9_]*|__init__)\.py\Z")
        self.assertTrue((PACKAGE / "__init__.py").is_file())

    def test_each_file_keeps_to_the_rules(self):
        for path in sorted(PACKAGE.rglob("*.py")):
            with self.subTest(path.name):
                self.assertEqual(faults(path.read_text()), [])

    def test_no_two_files_draw_from_one_another(self):
        left = {path.stem: drawn_from(path.stem) for path in PACKAGE.rglob("*.py")}
        while left:
            free = [name for name in left if not left[name] & set(left)]
            self.assertNotEqual(free, [], left)
            left = {name: left[name] for name in left if name not in free}

    def test_code_outside_the_rules_is_seen(self):
        outside = (
            "import math\n", "from math import isqrt\n", "from . import errors\n",
            "from gradecut.shares import square\n", "A = 1.5\n", "def f(a):\n    return a / 2\n",
            "def f(*a):\n    return a\n", "def f(n):\n    return 2 ** n\n", "def f(a):\n    return open(a)\n",
            "def f(a):\n    b = c = a\n    return b\n", "def f(a):\n    yield a\n", "def f(a):\n    assert a\n",
            "def f(a):\n    for b in a:\n        pass\n    else:\n        pass\n", "def _f(a):\n    return a\n",
            "def f(a):\n    hash = a\n    return hash\n", "# which type\n", "A = 1\t\n",
            "def f(a):\n" + "    a = 1\n" * 40,
            "def f(a):\n    return [b + c for b in a for c in a]\n", "def f(a):\n    return [b for b in a if b if a]\n",
            "def f(a):\n    return any(b for b in a)\n", "def f(a, b):\n    return a is b\n", "class A:\n    b = 1\n",
            "def f(a):\n    a.sort()\n", "def f(a):\n    a.corners = 1\n", "A = 1\nA = 2\n",
            "from gradecut.spots import place\n\n\ndef f(place):\n    return place\n",
            "def f():\n    pass\n\n\ndef f():\n    pass\n", "def f(a):\n    b = zip(a, a)\n    return list(b)\n",
            "def f(a):\n    return a.keys()\n", "A = \"100%\"\n", "def f(a):\n    return a.elements\n",
            "def f(a):\n    return chr(a)\n",
            "def f(a):\n    try:\n        return f(int(a))\n    except ValueError:\n        return 0\n",
            "def f(a):\n    try:\n        return f(a)\n    except TypeError:\n        return 0\n",
        )
        for text in outside:
            with self.subTest(text):
                self.assertNotEqual(faults(text), [])


if __name__ == "__main__":
    unittest.main()
