"""What holds of the package's files: their form, and that they import, keep and reach nothing."""

import ast
import builtins
import pathlib
import re
import unittest

PACKAGE = pathlib.Path(__file__).resolve().parent.parent / "sixteenwordsdesk"

NODES = """Module Expr Constant Assign AugAssign Name Load Store FunctionDef arguments arg Return If While For Break
Continue Pass IfExp Call Subscript Slice List Tuple Dict ListComp comprehension Attribute Compare Eq NotEq Lt LtE Gt
GtE In NotIn BoolOp And Or UnaryOp Not USub Invert BinOp Add Sub Mult FloorDiv Mod BitAnd BitOr BitXor LShift
RShift""".split()
OWN_NAMES = """len range enumerate zip min max sum abs sorted reversed int str bool list tuple dict isinstance ord repr
any all divmod""".split()
METHODS = """append bit_length clear copy count extend get index insert items keys pop remove reverse setdefault
update values""".split()
BARRED = "type typing enum Enum Flag Generic Protocol ABC register mro elements open input"


def sources():
    return {path.name: path.read_text(encoding="utf-8") for path in sorted(PACKAGE.glob("*.py"))}


def nodes():
    return [(name, node) for name, text in sources().items() for node in ast.walk(ast.parse(text))]


def bound_names(node):
    if isinstance(node, ast.FunctionDef):
        return [node.name]
    if isinstance(node, ast.arg):
        return [node.arg]
    if isinstance(node, ast.Name) and isinstance(node.ctx, ast.Store):
        return [node.id]
    return []


class PackageTest(unittest.TestCase):
    def test_files(self):
        found = [path.name for path in PACKAGE.iterdir() if path.name != "__pycache__"]
        self.assertEqual(sorted(found), ["__init__.py", "rows.py"])

    def test_signs_and_sizes(self):
        for name, text in sources().items():
            self.assertTrue(all(sign == "\n" or " " <= sign <= "~" for sign in text), name)
            lines = text.split("\n")
            self.assertLessEqual(len(lines), 400, name)
            self.assertLessEqual(max(len(line) for line in lines), 120, name)

    def test_function_sizes(self):
        for name, node in nodes():
            if isinstance(node, ast.FunctionDef):
                self.assertLessEqual(node.end_lineno - node.lineno + 1, 40, f"{name}: {node.name}")

    def test_forms(self):
        # Imports, classes, sets, powers, floats' division and the like are not among these.
        for name, node in nodes():
            where = f"{name}, line {getattr(node, 'lineno', 0)}: {node.__class__.__name__}"
            self.assertIn(node.__class__.__name__, NODES, where)
            if isinstance(node, ast.Constant):
                self.assertIn(type(node.value), (int, str, bool, type(None)), where)

    def test_own_names_of_python(self):
        for name, node in nodes():
            if isinstance(node, ast.Name) and hasattr(builtins, node.id):
                self.assertIn(node.id, OWN_NAMES, f"{name}, line {node.lineno}")
            if isinstance(node, ast.Attribute):
                self.assertIn(node.attr, METHODS, f"{name}, line {node.lineno}")

    def test_bound_names(self):
        for name, node in nodes():
            for bound in bound_names(node):
                self.assertFalse(hasattr(builtins, bound), f"{name}: {bound}")
                self.assertFalse(bound.startswith("_"), f"{name}: {bound}")

    def test_assignments_loops_and_calls(self):
        for name, node in nodes():
            where = f"{name}, line {getattr(node, 'lineno', 0)}"
            if isinstance(node, ast.Assign):
                self.assertEqual(len(node.targets), 1, where)
            if isinstance(node, (ast.For, ast.While)):
                self.assertEqual(node.orelse, [], where)
            if isinstance(node, ast.ListComp):
                self.assertEqual(len(node.generators), 1, where)
                self.assertLessEqual(len(node.generators[0].ifs), 1, where)
            if isinstance(node, ast.Call):
                self.assertEqual(node.keywords, [], where)

    def test_no_function_calls_itself(self):
        # What may be as long as its input is gone through by loops.
        for name, node in nodes():
            if isinstance(node, ast.FunctionDef):
                called = [inner.func.id for inner in ast.walk(node) if isinstance(inner, ast.Call)
                          and isinstance(inner.func, ast.Name)]
                self.assertNotIn(node.name, called, name)

    def test_barred_words(self):
        for name, text in sources().items():
            self.assertIsNone(re.search(rf"\b({'|'.join(BARRED.split())})\b", text), name)

    def test_top_of_files(self):
        # Nothing is kept there: each name once, with a plain number or text.
        for name, text in sources().items():
            tops = ast.parse(text).body[1:]
            bound = []
            for node in tops:
                self.assertIsInstance(node, (ast.FunctionDef, ast.Assign), name)
                if isinstance(node, ast.Assign):
                    self.assertIsInstance(node.value, ast.Constant, name)
                    bound.extend(target.id for target in node.targets)
                else:
                    bound.append(node.name)
            self.assertEqual(len(bound), len(set(bound)), name)

    def test_plain_functions(self):
        for name, node in nodes():
            if isinstance(node, ast.FunctionDef):
                plain = node.args
                self.assertEqual(node.decorator_list, [], name)
                self.assertFalse(plain.vararg or plain.kwarg or plain.kwonlyargs or plain.posonlyargs, name)


if __name__ == "__main__":
    unittest.main()
