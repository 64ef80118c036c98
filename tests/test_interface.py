"""Tests of what holds for every operation: names, arguments and kinds, ranges, and that a call leaves no trace."""

import ast
import contextlib
import inspect
import io
import itertools
import pathlib
import sys
import unittest
from unittest import mock

from layerbars import layers
from layerbars.layers import bounds, can_fill, colour_counts, covered_colours, fill, free_squares, is_valid
from support import ALL_SIZES, GREATEST_NUMBER, ON_ARRANGEMENTS, ON_SIZES, PINWHEEL, edge_cases, flat

SOME_OUT_OF_RANGE = [(0, 1, 1), (1, 7, 1), (1, 1, 7)]
# Valid in most layers, valid in a great one, overlapping, leaving the layer, and not in form.
ARRANGEMENTS = (
    (),
    (0, 0, 1),
    (0, 0, 0, 1, 0, 0),
    tuple(flat(PINWHEEL)),
    (0, 0, 1, 0, 0, 1),
    (7, 7, 1),
    (0, 0, 0) * 20,
    (0, 0, 1, 8, 0, 0),
    (0, 0, 2),
    (0, 0),
)


def all_calls():
    """Every operation with every size and some out of range, and with each of the arrangements."""
    for sizes in ALL_SIZES + SOME_OUT_OF_RANGE:
        for operation in ON_SIZES:
            yield operation, sizes
        for operation, bars in itertools.product(ON_ARRANGEMENTS, ARRANGEMENTS):
            yield operation, sizes + (list(bars),)


def kept_by_the_module():
    """What stands at the top of the module and in its functions, as a text each."""
    own = {name: value for name, value in vars(layers).items() if not name.startswith("__")}
    return {name: repr((value, getattr(value, "__dict__", None), getattr(value, "__defaults__", None)))
            for name, value in own.items()}


def call_once_each():
    """Call every operation with every kind of answer."""
    for sizes in ((6, 6, 3), (5, 5, 2), (0, 1, 1)):
        for operation in ON_SIZES:
            operation(*sizes)
        for operation, bars in itertools.product(ON_ARRANGEMENTS, ARRANGEMENTS):
            operation(*sizes, list(bars))


class OutOfRange(unittest.TestCase):
    """-22 just where a size is out of range, ahead of every other answer."""

    def test_each_size_at_its_edges(self):
        for sizes in edge_cases():
            outside = any(size < 1 or size > 6 for size in sizes)
            for operation in ON_SIZES:
                self.assertEqual(operation(*sizes) == [-22], outside, (operation.__name__, sizes))
            for operation in ON_ARRANGEMENTS:
                self.assertEqual(operation(*sizes, []) == [-22], outside, (operation.__name__, sizes))

    def test_a_size_out_of_range_with_bars_in_form_and_not(self):
        for sizes in ((0, 1, 1), (1, 0, 1), (1, 1, 0), (7, 6, 2), (6, 7, 2), (6, 6, 7), (0, 0, 0), (7, 7, 7),
                      (GREATEST_NUMBER, 6, 2), (6, GREATEST_NUMBER, 2), (6, 6, GREATEST_NUMBER)):
            for operation, bars in itertools.product(ON_ARRANGEMENTS, ARRANGEMENTS):
                self.assertEqual(operation(*sizes, list(bars)), [-22], (operation.__name__, sizes, bars))

    def test_ahead_of_a_layer_that_cannot_be_filled(self):
        for sizes in ((7, 5, 4), (5, 7, 4), (5, 5, 7), (7, 7, 4), (GREATEST_NUMBER, 5, 2), (5, 5, GREATEST_NUMBER)):
            self.assertEqual(fill(*sizes), [-22], sizes)
            self.assertEqual(can_fill(*sizes), [-22], sizes)

    def test_length_0_divides_nothing_and_is_refused(self):
        for width, height in itertools.product((0, 1, 6, 7), repeat=2):
            with self.subTest(width=width, height=height):
                for operation in ON_SIZES:
                    self.assertEqual(operation(width, height, 0), [-22], operation.__name__)
                for operation in ON_ARRANGEMENTS:
                    self.assertEqual(operation(width, height, 0, []), [-22], operation.__name__)


class Interface(unittest.TestCase):
    """Names, arguments and kinds, and that a call leaves no trace."""

    def test_there_are_seven_plain_functions(self):
        self.assertEqual([operation.__name__ for operation in ON_SIZES + ON_ARRANGEMENTS],
                         ["fill", "can_fill", "colour_counts", "bounds", "is_valid", "covered_colours", "free_squares"])
        for operation in ON_SIZES + ON_ARRANGEMENTS:
            self.assertTrue(inspect.isfunction(operation), operation)
            self.assertEqual(operation.__module__, "layerbars.layers")
            for parameter in inspect.signature(operation).parameters.values():
                self.assertIs(parameter.kind, inspect.Parameter.POSITIONAL_OR_KEYWORD, operation)
                self.assertIs(parameter.default, inspect.Parameter.empty, operation)

    def test_the_parameters_bear_the_names_of_the_document(self):
        for operation in ON_SIZES:
            self.assertEqual(list(inspect.signature(operation).parameters), ["width", "height", "length"])
        for operation in ON_ARRANGEMENTS:
            self.assertEqual(list(inspect.signature(operation).parameters), ["width", "height", "length", "bars"])

    def test_the_parameters_can_be_given_by_name(self):
        self.assertEqual(fill(length=2, height=1, width=4), [2, 0, 0, 1, 2, 0, 1])
        self.assertEqual(can_fill(length=2, height=1, width=4), [1])
        self.assertEqual(colour_counts(length=3, height=1, width=4), [3, 2, 1, 1])
        self.assertEqual(bounds(length=3, height=1, width=4), [1, 1])
        self.assertEqual(is_valid(bars=[0, 0, 1], length=2, height=1, width=4), [1])
        self.assertEqual(is_valid(bars=[0, 0, 0], length=2, height=1, width=4), [0])
        self.assertEqual(covered_colours(bars=[0, 0, 1], length=2, height=1, width=4), [2, 1, 1])
        self.assertEqual(free_squares(bars=[0, 0, 1], length=2, height=1, width=4), [4, 2, 0, 3, 0])

    def test_every_answer_is_a_list_of_whole_numbers(self):
        for operation, arguments in all_calls():
            answer = operation(*arguments)
            self.assertIs(type(answer), list, (operation.__name__, arguments))
            self.assertEqual({type(number) for number in answer}, {int}, (operation.__name__, arguments))

    def test_a_second_call_answers_the_same(self):
        for operation, arguments in all_calls():
            self.assertEqual(operation(*arguments), operation(*arguments), (operation.__name__, arguments))

    def test_the_order_of_the_calls_does_not_matter(self):
        calls = list(all_calls())
        forwards = [operation(*arguments) for operation, arguments in calls]
        backwards = [operation(*arguments) for operation, arguments in reversed(calls)]
        self.assertEqual(forwards, backwards[::-1])

    def test_a_changed_answer_does_not_change_a_later_one(self):
        for operation, arguments in all_calls():
            answer = operation(*arguments)
            as_it_was = list(answer)
            answer[0] = 99
            answer.append(99)
            self.assertEqual(operation(*arguments), as_it_was, (operation.__name__, arguments))

    def test_the_module_keeps_nothing(self):
        before = kept_by_the_module()
        for operation, arguments in all_calls():
            operation(*arguments)
        self.assertEqual(kept_by_the_module(), before)

    def test_nothing_is_printed(self):
        printed = io.StringIO()
        with contextlib.redirect_stdout(printed), contextlib.redirect_stderr(printed):
            call_once_each()
        self.assertEqual(printed.getvalue(), "")

    def test_nothing_is_read(self):
        # An audit hook can't be taken away again, so it is only switched off behind the calls.
        events = []
        watching = [False]
        sys.addaudithook(lambda event, details: events.append(event) if watching[0] else None)
        watching[0] = True
        call_once_each()
        watching[0] = False
        self.assertEqual(events, [])

    def test_nothing_is_imported(self):
        with mock.patch("builtins.__import__") as importing:
            call_once_each()
        importing.assert_not_called()

    def test_the_package_draws_from_itself_alone(self):
        for path in pathlib.Path(layers.__file__).parent.glob("*.py"):
            for node in ast.walk(ast.parse(path.read_text(encoding="utf-8"))):
                with self.subTest(file=path.name, line=getattr(node, "lineno", 0)):
                    self.assertNotIsInstance(node, ast.Import)
                    if isinstance(node, ast.ImportFrom):
                        self.assertTrue(node.module.startswith("layerbars."))


class Unchangeable(list):
    """A list that fails at once when it is changed, be it only for a while."""

    def refuse(self, *details, **named):
        raise AssertionError("the list that was handed in was changed")

    append = clear = extend = insert = pop = remove = reverse = sort = refuse
    __setitem__ = __delitem__ = __iadd__ = __imul__ = refuse


class HandedIn(unittest.TestCase):
    """The list of bars is the caller's."""

    def test_it_is_as_it_was_behind_the_call(self):
        for operation, arguments in all_calls():
            if operation in ON_ARRANGEMENTS:
                bars = list(arguments[3])
                operation(*arguments)
                self.assertEqual(arguments[3], bars, (operation.__name__, arguments))

    def test_it_is_not_changed_for_a_while_either(self):
        for operation, arguments in all_calls():
            if operation in ON_ARRANGEMENTS:
                operation(*arguments[:3], Unchangeable(arguments[3]))

    def test_the_check_sees_a_change(self):
        with self.assertRaises(AssertionError):
            Unchangeable([1]).append(2)

    def test_an_answer_is_another_list(self):
        for operation, bars in itertools.product(ON_ARRANGEMENTS, ARRANGEMENTS + ((1,), (4, 2, 2))):
            handed_in = list(bars)
            self.assertIsNot(operation(3, 2, 2, handed_in), handed_in, (operation.__name__, bars))


if __name__ == "__main__":
    unittest.main()
