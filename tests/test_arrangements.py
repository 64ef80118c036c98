"""Tests of is_valid against the document's words, over all sizes that it allows."""

import itertools
import unittest

from layerbars.layers import colour_counts, fill, is_valid
from support import (ALL_SIZES, BARS_IN_FORM, GREATEST_LIST, GREATEST_NUMBER, divides_a_side, flat, layer_squares,
                     squares_of)


def bars_inside(width, height, length):
    """The bars in form that lie inside the layer, by the words of "Bar" and "Layer"."""
    layer = set(layer_squares(width, height))
    return [bar for bar in BARS_IN_FORM if squares_of(*bar, length) <= layer]


def bars_outside(width, height, length):
    """The bars in form that leave the layer."""
    inside = bars_inside(width, height, length)
    return [bar for bar in BARS_IN_FORM if bar not in inside]


def fillings_that_fit_in_a_list():
    """The sizes that fill has an answer for, with its bars, where these are at most 60 numbers."""
    for sizes in ALL_SIZES:
        if divides_a_side(*sizes) and 3 * fill(*sizes)[0] <= GREATEST_LIST:
            numbers = fill(*sizes)[1:]
            yield sizes, [tuple(numbers[at:at + 3]) for at in range(0, len(numbers), 3)]


def rows_and_strip(width, height, length):
    """Bars in rows along x from the left, and bars along y in the strip that the rows leave."""
    columns = width // length * length
    rows = [(x, y, 1) for y in range(height) for x in range(0, columns, length)]
    strip = [(x, y, 0) for x in range(columns, width) for y in range(0, height - length + 1, length)]
    return rows + strip


def turned(bars):
    """The bars with x and y, and so both directions, changed for one another."""
    return [(y, x, 1 - direction) for x, y, direction in bars]


class Examples(unittest.TestCase):
    """The row of the document."""

    def test_is_valid(self):
        self.assertEqual(is_valid(3, 2, 2, [0, 0, 1, 2, 0, 0]), [1])


class ByHand(unittest.TestCase):
    """Arrangements worked out by hand, apart from every count of squares."""

    def check(self, sizes, bars, expected):
        self.assertEqual(is_valid(*sizes, bars), [expected], (sizes, bars))

    def test_a_bar_that_reaches_the_edge_and_one_that_passes_it(self):
        self.check((4, 3, 3), [1, 0, 1], 1)
        self.check((4, 3, 3), [2, 0, 1], 0)
        self.check((4, 3, 3), [3, 0, 0], 1)
        self.check((4, 3, 3), [3, 1, 0], 0)
        self.check((4, 3, 3), [0, 2, 1], 1)
        self.check((4, 3, 3), [0, 3, 1], 0)
        self.check((4, 3, 3), [4, 0, 0], 0)

    def test_a_bar_that_goes_on_in_the_next_row_does_not_lie_inside(self):
        self.check((3, 2, 2), [2, 0, 1], 0)
        self.check((2, 3, 2), [0, 2, 0], 0)

    def test_a_bar_longer_than_the_layer(self):
        self.check((2, 6, 3), [0, 0, 1], 0)
        self.check((2, 6, 3), [0, 0, 0], 1)
        self.check((5, 5, 6), [0, 0, 0], 0)
        self.check((5, 5, 6), [0, 0, 1], 0)

    def test_the_same_bar_twice(self):
        self.check((6, 6, 2), [1, 1, 1, 1, 1, 1], 0)
        self.check((6, 6, 2), [1, 1, 0, 1, 1, 0], 0)

    def test_bars_of_length_1_overlap_whatever_their_direction(self):
        self.check((1, 1, 1), [0, 0, 0], 1)
        self.check((1, 1, 1), [0, 0, 1], 1)
        self.check((1, 1, 1), [0, 0, 0, 0, 0, 1], 0)

    def test_bars_that_cross(self):
        self.check((3, 3, 3), [0, 1, 1, 1, 0, 0], 0)
        self.check((3, 3, 3), [1, 0, 0, 0, 1, 1], 0)
        self.check((6, 6, 4), [0, 5, 1, 3, 2, 0], 0)

    def test_bars_that_share_one_end(self):
        self.check((6, 6, 3), [0, 0, 1, 2, 0, 1], 0)
        self.check((6, 6, 3), [0, 0, 0, 0, 2, 0], 0)
        self.check((6, 6, 3), [0, 0, 0, 0, 0, 1], 0)

    def test_bars_that_touch_without_overlapping(self):
        self.check((6, 6, 3), [0, 0, 1, 3, 0, 1], 1)
        self.check((6, 6, 3), [0, 0, 0, 0, 3, 0], 1)
        self.check((6, 6, 3), [0, 0, 1, 0, 1, 1], 1)
        self.check((6, 6, 3), [0, 0, 1, 3, 0, 0], 1)
        self.check((6, 6, 3), [0, 0, 0, 1, 2, 1], 1)

    def test_bars_of_which_one_alone_leaves_the_layer(self):
        self.check((3, 3, 2), [0, 0, 1, 2, 2, 1], 0)
        self.check((3, 3, 2), [2, 2, 1, 0, 0, 1], 0)
        self.check((3, 3, 2), [0, 0, 1, 2, 2, 0], 0)
        self.check((3, 3, 2), [0, 0, 1, 7, 7, 0, 0, 1, 1], 0)

    def test_bars_that_overlap_with_another_between_them(self):
        self.check((4, 4, 2), [0, 0, 1, 2, 0, 1, 2, 2, 1, 1, 0, 0], 0)
        self.check((4, 4, 2), [0, 0, 1, 2, 0, 1, 2, 2, 1, 1, 1, 0], 1)

    def test_the_greatest_first_square_is_in_form_but_outside(self):
        for direction, length in itertools.product((0, 1), range(1, 7)):
            self.check((6, 6, length), [7, 0, direction], 0)
            self.check((6, 6, length), [0, 7, direction], 0)
            self.check((6, 6, length), [7, 7, direction], 0)
            self.check((6, 6, length), [6, 0, direction], 0)
            self.check((6, 6, length), [0, 6, direction], 0)


class ForAllSizes(unittest.TestCase):
    """is_valid for every width, height and length from 1 to 6."""

    def test_the_arrangement_without_bars(self):
        for sizes in ALL_SIZES:
            self.assertEqual(is_valid(*sizes, []), [1], sizes)

    def test_every_single_bar(self):
        for sizes in ALL_SIZES:
            inside = bars_inside(*sizes)
            for bar in BARS_IN_FORM:
                self.assertEqual(is_valid(*sizes, list(bar)), [1] if bar in inside else [0], (sizes, bar))

    def test_every_pair_of_bars_inside(self):
        for sizes in ALL_SIZES:
            squares = {bar: squares_of(*bar, sizes[2]) for bar in bars_inside(*sizes)}
            for first, second in itertools.product(squares, repeat=2):
                expected = [0] if squares[first] & squares[second] else [1]
                self.assertEqual(is_valid(*sizes, [*first, *second]), expected, (sizes, first, second))

    def test_pairs_of_which_one_alone_leaves_the_layer(self):
        for sizes in ALL_SIZES:
            inside = bars_inside(*sizes)
            for kept, left in itertools.product(inside[:1] + inside[-1:], bars_outside(*sizes)):
                self.assertEqual(is_valid(*sizes, [*kept, *left]), [0], (sizes, kept, left))
                self.assertEqual(is_valid(*sizes, [*left, *kept]), [0], (sizes, left, kept))

    def test_pairs_of_which_both_leave_the_layer(self):
        for sizes in ALL_SIZES:
            outside = bars_outside(*sizes)
            for first, second in zip(outside, reversed(outside)):
                self.assertEqual(is_valid(*sizes, [*first, *second]), [0], (sizes, first, second))


class Fillings(unittest.TestCase):
    """The bars that fill answers, and the same with one changed."""

    def test_they_are_valid_in_whatever_order(self):
        for sizes, bars in fillings_that_fit_in_a_list():
            for ordered in (bars, bars[::-1], bars[1::2] + bars[0::2]):
                self.assertEqual(is_valid(*sizes, flat(ordered)), [1], (sizes, ordered))

    def test_they_are_valid_without_one_of_them(self):
        for sizes, bars in fillings_that_fit_in_a_list():
            for at in range(len(bars)):
                self.assertEqual(is_valid(*sizes, flat(bars[:at] + bars[at + 1:])), [1], (sizes, at))

    def test_they_are_not_valid_with_one_of_them_twice(self):
        for sizes, bars in fillings_that_fit_in_a_list():
            for bar in bars:
                if 3 * len(bars) + 3 <= GREATEST_LIST:
                    self.assertEqual(is_valid(*sizes, flat(bars + [bar])), [0], (sizes, bar))
                    self.assertEqual(is_valid(*sizes, flat([bar] + bars)), [0], (sizes, bar))

    def test_they_are_not_valid_with_one_in_the_place_of_another(self):
        for sizes, bars in fillings_that_fit_in_a_list():
            if len(bars) > 1:
                self.assertEqual(is_valid(*sizes, flat(bars[:-1] + bars[:1])), [0], sizes)

    def test_there_are_fillings_of_the_greatest_list(self):
        longest = max(3 * len(bars) for sizes, bars in fillings_that_fit_in_a_list())
        self.assertEqual(longest, GREATEST_LIST)


class AtMostTheRarestColour(unittest.TestCase):
    """A valid arrangement has at most as many bars as the rarest colour has squares."""

    def arrangements(self):
        """Rows of bars with a strip across, for all sizes and both ways, with the count of the rarest colour."""
        for width, height, length in ALL_SIZES:
            rarest = min(colour_counts(width, height, length)[1:])
            for bars in (rows_and_strip(width, height, length), turned(rows_and_strip(height, width, length))):
                if 3 * len(bars) + 3 <= GREATEST_LIST:
                    yield (width, height, length), bars, rarest

    def test_rows_of_bars_are_valid_and_not_more(self):
        for sizes, bars, rarest in self.arrangements():
            self.assertEqual(is_valid(*sizes, flat(bars)), [1], (sizes, bars))
            self.assertLessEqual(len(bars), rarest, (sizes, bars))

    def test_no_bar_more_is_valid(self):
        for sizes, bars, rarest in self.arrangements():
            if len(bars) == rarest:
                for bar in BARS_IN_FORM:
                    self.assertEqual(is_valid(*sizes, flat(bars + [bar])), [0], (sizes, bars, bar))


class Form(unittest.TestCase):
    """-22, not 0, where bars does not have the required form."""

    # Nothing at all, one bar that is valid, bars that overlap, bars that leave the layer, and many of each.
    OTHERS = ([], [0, 0, 1], [0, 0, 1, 0, 0, 1], [7, 7, 1], [5, 5, 0, 0, 0, 0], [0, 0, 1] * 19, [7, 7, 0] * 19)
    NOT_IN_FORM = ([8, 0, 0], [0, 8, 0], [0, 0, 2], [8, 8, 2], [9, 0, 1], [0, 9, 1], [0, 0, 3], [255, 0, 0],
                   [GREATEST_NUMBER, 0, 0], [0, GREATEST_NUMBER, 0], [0, 0, GREATEST_NUMBER],
                   [8, 0, 1], [0, 8, 1], [GREATEST_NUMBER, 0, 1], [0, GREATEST_NUMBER, 1],
                   [7, 7, 2], [7, 7, GREATEST_NUMBER], [GREATEST_NUMBER] * 3)

    def test_a_number_out_of_range_in_the_first_bar_and_in_the_last(self):
        for bar, others in itertools.product(self.NOT_IN_FORM, self.OTHERS):
            for sizes in ((3, 2, 2), (6, 6, 1), (1, 1, 6)):
                self.assertEqual(is_valid(*sizes, bar + others), [-22], (sizes, bar, others))
                self.assertEqual(is_valid(*sizes, others + bar), [-22], (sizes, others, bar))

    def test_a_number_out_of_range_between_bars(self):
        for bar in self.NOT_IN_FORM:
            self.assertEqual(is_valid(3, 2, 2, [0, 0, 1] + bar + [2, 0, 0]), [-22], bar)

    def test_each_number_up_to_its_greatest_and_past_it(self):
        for number in list(range(12)) + [255, 65536, GREATEST_NUMBER]:
            for sizes in ((1, 1, 1), (6, 6, 6)):
                self.assertEqual(is_valid(*sizes, [number, 0, 0]) == [-22], number > 7, number)
                self.assertEqual(is_valid(*sizes, [0, number, 0]) == [-22], number > 7, number)
                self.assertEqual(is_valid(*sizes, [0, 0, number]) == [-22], number > 1, number)

    def test_a_length_that_three_does_not_divide(self):
        for count in range(GREATEST_LIST + 1):
            for number in (0, 1):
                refused = is_valid(6, 6, 2, [number] * count) == [-22]
                self.assertEqual(refused, count % 3 != 0, (number, count))

    def test_numbers_left_over_behind_bars_of_every_kind(self):
        for others, left in itertools.product(self.OTHERS, ([0], [0, 0], [1], [7, 7], [8], [GREATEST_NUMBER] * 2)):
            self.assertEqual(is_valid(6, 6, 2, others + left), [-22], (others, left))
            self.assertEqual(is_valid(6, 6, 2, left + others), [-22], (left, others))

    def test_lists_of_60_numbers(self):
        bars = [(x, y, 1) for x, y in layer_squares(6, 6)[:20]]
        self.assertEqual(is_valid(6, 6, 1, flat(bars)), [1])
        self.assertEqual(is_valid(6, 3, 1, flat(bars)), [0])
        self.assertEqual(is_valid(6, 6, 1, flat(bars[:19] + bars[:1])), [0])
        self.assertEqual(is_valid(6, 6, 1, flat(bars[:19] + [(7, 7, 0)])), [0])
        self.assertEqual(is_valid(6, 6, 1, flat(bars[:19] + [(5, 5, 0)])), [1])
        for at in range(20):
            for bar in self.NOT_IN_FORM:
                changed = flat(bars[:at] + [bar] + bars[at + 1:])
                self.assertEqual(len(changed), GREATEST_LIST)
                self.assertEqual(is_valid(6, 6, 1, changed), [-22], (at, bar))


if __name__ == "__main__":
    unittest.main()
