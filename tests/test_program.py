"""What the document says of the whole program: nothing is kept, printed, read or imported."""

import itertools
import os
import pathlib
import re
import subprocess
import sys
import unittest

from sawteeth import teeth

ROOT = pathlib.Path(__file__).resolve().parent.parent

CALLS = (
    ("six", (2, 7)), ("six", (-811, 2000)), ("six", (2, 4)), ("six", (1, 0)),
    ("sign", (2, 7)), ("sign", (81, 250)), ("sign", (2, 4)), ("sign", (1, 0)),
    ("corner", (2, 3, 6)), ("corner", (25, 24, 23)), ("corner", (2, 3, 0)),
    ("round_of", (2, 3, 5, 8)), ("round_of", (-1, 5, 0, -1)), ("round_of", (1, 1, 1, 1)),
    ("round_of", (1, 0, 1000001, 1)),
    ("floors", (2, 3, 5, 8)), ("floors", (-7, 3, 5, 10000)), ("floors", (2, 3, 0, 8)),
)

# Each is called by itself in a Python of its own, so that nothing came before it.
FIRST_CALL = """
from sawteeth import teeth
print(getattr(teeth, {name!r})(*{numbers!r}))
"""

ALL_CALLS = """
import sys
from sawteeth import teeth
for name, numbers in {calls!r}:
    getattr(teeth, name)(*numbers)
sys.stderr.write(sys.stdin.read())
"""

IMPORTED = """
import sys
before = set(sys.modules)
from sawteeth import teeth
for name, numbers in {calls!r}:
    getattr(teeth, name)(*numbers)
print(sorted(set(sys.modules) - before))
"""


def run_alone(code, handed_in=""):
    settings = dict(os.environ, PYTHONPATH=str(ROOT), PYTHONDONTWRITEBYTECODE="1")
    command = [sys.executable, "-c", code]
    ended = subprocess.run(command, input=handed_in, capture_output=True, text=True, env=settings, timeout=300)
    return ended.returncode, ended.stdout, ended.stderr


def answer(name, numbers):
    return getattr(teeth, name)(*numbers)


def shown_values():
    return {name: repr(value) for name, value in vars(teeth).items() if name != "__builtins__"}


class NothingIsKept(unittest.TestCase):
    def test_each_call_between_the_others_is_as_if_for_the_first_time(self):
        firsts = {}
        for name, numbers in CALLS:
            code, out, err = run_alone(FIRST_CALL.format(name=name, numbers=numbers))
            self.assertEqual((code, err), (0, ""))
            firsts[name, numbers] = out
        for one, other in itertools.product(CALLS, repeat=2):
            with self.subTest(one=one, other=other):
                answer(*other).append(99)
                self.assertEqual(f"{answer(*one)}\n", firsts[one])
                answer(*other).clear()
                self.assertEqual(f"{answer(*one)}\n", firsts[one])

    def test_the_module_is_left_as_it_was(self):
        before = shown_values()
        for name, numbers in CALLS:
            answer(name, numbers)
        self.assertEqual(shown_values(), before)


class NothingElseIsDone(unittest.TestCase):
    def test_nothing_is_printed_and_nothing_is_read(self):
        ended = run_alone(ALL_CALLS.format(calls=CALLS), "left to be read\n")
        self.assertEqual(ended, (0, "", "left to be read\n"))

    def test_nothing_is_imported(self):
        code, out, err = run_alone(IMPORTED.format(calls=CALLS))
        self.assertEqual((code, out, err), (0, "['sawteeth', 'sawteeth.teeth']\n", ""))


class Readme(unittest.TestCase):
    def test_the_calls_shown_are_answered_so(self):
        text = (ROOT / "README.md").read_text(encoding="utf-8")
        shown = re.findall(r"^(\w+)\(([-0-9, ]+)\) +# \[([-0-9, ]+)\]$", text, re.MULTILINE)
        self.assertEqual({name for name, _, _ in shown}, {name for name, _ in CALLS})
        for name, numbers, expected in shown:
            with self.subTest(name=name, numbers=numbers):
                numbers = tuple(int(number) for number in numbers.split(","))
                self.assertEqual(answer(name, numbers), [int(number) for number in expected.split(",")])


if __name__ == "__main__":
    unittest.main()
