"""Tests of fill and can_fill against the document's words, over all sizes that it allows."""

import ast
import contextlib
import inspect
import io
import itertools
import pathlib
import sys
import unittest
from unittest import mock

from layerbars import layers
from layerbars.layers import can_fill, fill

SIZES = range(1, 7)
ALL_SIZES = list(itertools.product(SIZES, repeat=3))
GREATEST_NUMBER = 4294967295
OUTSIDE = (0, 7, 8, 255, 256, 65536, 2147483648, GREATEST_NUMBER)
EDGES = (0, 1, 6, 7, GREATEST_NUMBER)


def squares_of(x, y, direction, length):
    """The squares of a bar, by the words of "Bar"."""
    if direction == 1:
        return {(x + step, y) for step in range(length)}
    return {(x, y + step) for step in range(length)}


def fillings(free, length):
    """All fillings of the free squares, in the order in which the depth-first search meets them."""
    if not free:
        yield []
        return
    x, y = free[0]
    for direction in (1, 0):
        bar = squares_of(x, y, direction, length)
        if bar <= set(free):
            left = [square for square in free if square not in bar]
            for rest in fillings(left, length):
                yield [(x, y, direction)] + rest


def layer_squares(width, height):
    """The squares of the layer, row by row."""
    return [(x, y) for y in range(height) for x in range(width)]


def first_filling(width, height, length):
    """The canonical filling as a list of bars, or None."""
    return next(fillings(layer_squares(width, height), length), None)


def expected_fill(width, height, length):
    """What fill is to answer, by the plain search of this file."""
    bars = first_filling(width, height, length)
    if bars is None:
        return [-33]
    return [len(bars)] + [number for bar in bars for number in bar]


def bars_of(answer):
    """The bars in an answer of fill, three numbers each."""
    return [tuple(answer[at:at + 3]) for at in range(1, len(answer), 3)]


def edge_cases():
    """Each parameter at each edge, with the others at every number in range and at some out of it."""
    others = list(SIZES) + list(OUTSIDE)
    for edge, second, third in itertools.product(EDGES, others, others):
        yield (edge, second, third)
        yield (second, edge, third)
        yield (second, third, edge)


def kept_by_the_module():
    """What stands at the top of the module and in its functions, as a text each."""
    own = {name: value for name, value in vars(layers).items() if not name.startswith("__")}
    return {name: repr((value, getattr(value, "__dict__", None), getattr(value, "__defaults__", None)))
            for name, value in own.items()}


def call_once_each():
    """Call both operations with a filling, without one, and out of range."""
    for sizes in ((6, 6, 3), (5, 5, 2), (0, 1, 1)):
        fill(*sizes)
        can_fill(*sizes)


class Examples(unittest.TestCase):
    """The rows of the document."""

    def test_fill_with_a_filling(self):
        self.assertEqual(fill(2, 2, 2), [2, 0, 0, 1, 0, 1, 1])

    def test_fill_without_a_filling(self):
        self.assertEqual(fill(6, 6, 4), [-33])

    def test_can_fill(self):
        self.assertEqual(can_fill(6, 6, 4), [0])


class FillByHand(unittest.TestCase):
    """Lists worked out by hand, apart from every search."""

    def test_direction_1_is_tried_first_where_both_cover_the_same(self):
        self.assertEqual(fill(1, 1, 1), [1, 0, 0, 1])
        self.assertEqual(fill(2, 2, 1), [4, 0, 0, 1, 1, 0, 1, 0, 1, 1, 1, 1, 1])

    def test_direction_0_where_direction_1_leaves_the_layer(self):
        self.assertEqual(fill(1, 2, 2), [1, 0, 0, 0])
        self.assertEqual(fill(2, 3, 3), [2, 0, 0, 0, 1, 0, 0])

    def test_bars_stand_in_the_order_in_which_they_were_placed(self):
        self.assertEqual(fill(3, 2, 2), [3, 0, 0, 1, 2, 0, 0, 0, 1, 1])
        self.assertEqual(fill(3, 4, 2), [6, 0, 0, 1, 2, 0, 0, 0, 1, 1, 0, 2, 1, 2, 2, 0, 0, 3, 1])

    def test_one_bar_is_the_whole_layer(self):
        self.assertEqual(fill(6, 1, 6), [1, 0, 0, 1])
        self.assertEqual(fill(1, 6, 6), [1, 0, 0, 0])

    def test_a_bar_longer_than_the_layer(self):
        self.assertEqual(fill(1, 1, 2), [-33])
        self.assertEqual(fill(5, 5, 6), [-33])

    def test_the_area_divides_but_no_side_does(self):
        self.assertEqual(fill(2, 2, 4), [-33])
        self.assertEqual(fill(2, 3, 6), [-33])
        self.assertEqual(fill(6, 2, 4), [-33])


class FillForAllSizes(unittest.TestCase):
    """fill for every width, height and length from 1 to 6."""

    def test_it_is_the_canonical_filling(self):
        for sizes in ALL_SIZES:
            with self.subTest(sizes=sizes):
                self.assertEqual(fill(*sizes), expected_fill(*sizes))

    def test_the_bars_cover_the_layer_whole_and_once(self):
        for width, height, length in ALL_SIZES:
            answer = fill(width, height, length)
            if answer == [-33]:
                continue
            with self.subTest(width=width, height=height, length=length):
                self.assertEqual(len(answer), 1 + 3 * answer[0])
                self.assertTrue(all(bar[2] in (0, 1) for bar in bars_of(answer)))
                covered = [square for bar in bars_of(answer) for square in squares_of(*bar, length)]
                self.assertEqual(sorted(covered), sorted(layer_squares(width, height)))

    def test_it_refuses_just_where_length_divides_no_side(self):
        for width, height, length in ALL_SIZES:
            with self.subTest(width=width, height=height, length=length):
                divides = width % length == 0 or height % length == 0
                self.assertEqual(fill(width, height, length) != [-33], divides)


class CanFillForAllSizes(unittest.TestCase):
    """can_fill for every width, height and length from 1 to 6."""

    def test_it_follows_de_bruijns_theorem(self):
        for width, height, length in ALL_SIZES:
            with self.subTest(width=width, height=height, length=length):
                divides = width % length == 0 or height % length == 0
                self.assertEqual(can_fill(width, height, length), [1] if divides else [0])

    def test_it_agrees_with_fill(self):
        for sizes in ALL_SIZES:
            with self.subTest(sizes=sizes):
                self.assertEqual(can_fill(*sizes), [0] if fill(*sizes) == [-33] else [1])

    def test_it_agrees_with_the_plain_search(self):
        for sizes in ALL_SIZES:
            with self.subTest(sizes=sizes):
                self.assertEqual(can_fill(*sizes), [0] if first_filling(*sizes) is None else [1])


class OutOfRange(unittest.TestCase):
    """-22 just where a parameter is out of range, ahead of -33.

    The smaller numbers come first and the first failure ends the test: a program that has lost a range is to fail
    here, not to work through a layer of 4294967295 squares.
    """

    def test_each_parameter_at_its_edges(self):
        for sizes in sorted(set(edge_cases()), key=max):
            outside = any(size < 1 or size > 6 for size in sizes)
            for operation in (fill, can_fill):
                self.assertEqual(operation(*sizes) == [-22], outside, (operation.__name__, sizes))

    def test_ahead_of_a_layer_that_cannot_be_filled(self):
        for sizes in ((7, 5, 4), (5, 7, 4), (5, 5, 7), (7, 7, 4), (GREATEST_NUMBER, 5, 2), (5, 5, GREATEST_NUMBER)):
            self.assertEqual(fill(*sizes), [-22], sizes)
            self.assertEqual(can_fill(*sizes), [-22], sizes)

    def test_length_0_divides_nothing_and_is_refused(self):
        for width, height in itertools.product((0, 1, 6, 7), repeat=2):
            with self.subTest(width=width, height=height):
                self.assertEqual(fill(width, height, 0), [-22])
                self.assertEqual(can_fill(width, height, 0), [-22])


class Interface(unittest.TestCase):
    """Names, arguments and kinds, and that a call leaves no trace."""

    def test_the_parameters_bear_the_names_of_the_document(self):
        for operation in (fill, can_fill):
            self.assertEqual(list(inspect.signature(operation).parameters), ["width", "height", "length"])
            self.assertEqual(operation.__module__, "layerbars.layers")
        self.assertEqual(fill(length=2, height=1, width=4), [2, 0, 0, 1, 2, 0, 1])
        self.assertEqual(can_fill(length=2, height=1, width=4), [1])

    def test_every_answer_is_a_list_of_whole_numbers(self):
        for sizes in ALL_SIZES + [(0, 1, 1), (1, 7, 1), (1, 1, 7)]:
            for operation in (fill, can_fill):
                answer = operation(*sizes)
                with self.subTest(operation=operation.__name__, sizes=sizes):
                    self.assertIs(type(answer), list)
                    self.assertEqual({type(number) for number in answer}, {int})

    def test_a_second_call_answers_the_same(self):
        for sizes in ALL_SIZES + [(0, 1, 1), (1, 7, 1), (1, 1, 7)]:
            for operation in (fill, can_fill):
                with self.subTest(operation=operation.__name__, sizes=sizes):
                    self.assertEqual(operation(*sizes), operation(*sizes))

    def test_the_order_of_the_calls_does_not_matter(self):
        for operation in (fill, can_fill):
            forwards = [operation(*sizes) for sizes in ALL_SIZES]
            backwards = [operation(*sizes) for sizes in reversed(ALL_SIZES)]
            self.assertEqual(forwards, backwards[::-1])

    def test_a_changed_answer_does_not_change_a_later_one(self):
        for sizes in ALL_SIZES + [(0, 1, 1), (1, 7, 1), (1, 1, 7)]:
            for operation in (fill, can_fill):
                with self.subTest(operation=operation.__name__, sizes=sizes):
                    answer = operation(*sizes)
                    as_it_was = list(answer)
                    answer[0] = 99
                    answer.append(99)
                    self.assertEqual(operation(*sizes), as_it_was)

    def test_the_module_keeps_nothing(self):
        before = kept_by_the_module()
        for sizes in ALL_SIZES + [(0, 1, 1)]:
            fill(*sizes)
            can_fill(*sizes)
        self.assertEqual(kept_by_the_module(), before)

    def test_nothing_is_printed(self):
        printed = io.StringIO()
        with contextlib.redirect_stdout(printed), contextlib.redirect_stderr(printed):
            call_once_each()
        self.assertEqual(printed.getvalue(), "")

    def test_nothing_is_read(self):
        # An audit hook can't be taken away again, so it is only switched off behind the calls.
        events = []
        watching = [False]
        sys.addaudithook(lambda event, details: events.append(event) if watching[0] else None)
        watching[0] = True
        call_once_each()
        watching[0] = False
        self.assertEqual(events, [])

    def test_nothing_is_imported(self):
        with mock.patch("builtins.__import__") as importing:
            call_once_each()
        importing.assert_not_called()

    def test_the_package_draws_from_itself_alone(self):
        for path in pathlib.Path(layers.__file__).parent.glob("*.py"):
            for node in ast.walk(ast.parse(path.read_text(encoding="utf-8"))):
                with self.subTest(file=path.name, line=getattr(node, "lineno", 0)):
                    self.assertNotIsInstance(node, ast.Import)
                    if isinstance(node, ast.ImportFrom):
                        self.assertTrue(node.module.startswith("layerbars."))


if __name__ == "__main__":
    unittest.main()
