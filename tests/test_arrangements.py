"""Tests of is_valid against the document's words, over all sizes that it allows."""

import itertools
import unittest

from layerbars.layers import bounds, is_valid
from support import (ALL_SIZES, BARS_IN_FORM, GREATEST_LIST, PINWHEEL, bars_inside, covered_squares,
                     fillings_that_fit_in_a_list, fillings_with_one_bar_twice, flat, other_orders, packings_in_rows,
                     pairs_inside, pairs_with_a_bar_outside)


class ByHand(unittest.TestCase):
    """Arrangements worked out by hand, apart from every count of squares."""

    def check(self, sizes, bars, expected):
        self.assertEqual(is_valid(*sizes, bars), [expected], (sizes, bars))

    def test_a_bar_that_reaches_the_edge_and_one_that_passes_it(self):
        self.check((4, 3, 3), [1, 0, 1], 1)
        self.check((4, 3, 3), [2, 0, 1], 0)
        self.check((4, 3, 3), [3, 0, 0], 1)
        self.check((4, 3, 3), [3, 1, 0], 0)
        self.check((4, 3, 3), [0, 2, 1], 1)
        self.check((4, 3, 3), [0, 3, 1], 0)
        self.check((4, 3, 3), [4, 0, 0], 0)

    def test_a_bar_that_goes_on_in_the_next_row_does_not_lie_inside(self):
        self.check((3, 2, 2), [2, 0, 1], 0)
        self.check((2, 3, 2), [0, 2, 0], 0)

    def test_a_bar_longer_than_the_layer(self):
        self.check((2, 6, 3), [0, 0, 1], 0)
        self.check((2, 6, 3), [0, 0, 0], 1)
        self.check((5, 5, 6), [0, 0, 0], 0)
        self.check((5, 5, 6), [0, 0, 1], 0)

    def test_the_same_bar_twice(self):
        self.check((6, 6, 2), [1, 1, 1, 1, 1, 1], 0)
        self.check((6, 6, 2), [1, 1, 0, 1, 1, 0], 0)

    def test_bars_of_length_1_overlap_whatever_their_direction(self):
        self.check((1, 1, 1), [0, 0, 0], 1)
        self.check((1, 1, 1), [0, 0, 1], 1)
        self.check((1, 1, 1), [0, 0, 0, 0, 0, 1], 0)

    def test_bars_that_cross(self):
        self.check((3, 3, 3), [0, 1, 1, 1, 0, 0], 0)
        self.check((3, 3, 3), [1, 0, 0, 0, 1, 1], 0)
        self.check((6, 6, 4), [0, 5, 1, 3, 2, 0], 0)

    def test_bars_that_share_one_end(self):
        self.check((6, 6, 3), [0, 0, 1, 2, 0, 1], 0)
        self.check((6, 6, 3), [0, 0, 0, 0, 2, 0], 0)
        self.check((6, 6, 3), [0, 0, 0, 0, 0, 1], 0)

    def test_bars_that_touch_without_overlapping(self):
        self.check((6, 6, 3), [0, 0, 1, 3, 0, 1], 1)
        self.check((6, 6, 3), [0, 0, 0, 0, 3, 0], 1)
        self.check((6, 6, 3), [0, 0, 1, 0, 1, 1], 1)
        self.check((6, 6, 3), [0, 0, 1, 3, 0, 0], 1)
        self.check((6, 6, 3), [0, 0, 0, 1, 2, 1], 1)

    def test_bars_of_which_one_alone_leaves_the_layer(self):
        self.check((3, 3, 2), [0, 0, 1, 2, 2, 1], 0)
        self.check((3, 3, 2), [2, 2, 1, 0, 0, 1], 0)
        self.check((3, 3, 2), [0, 0, 1, 2, 2, 0], 0)
        self.check((3, 3, 2), [0, 0, 1, 7, 7, 0, 0, 1, 1], 0)

    def test_bars_that_overlap_with_another_between_them(self):
        self.check((4, 4, 2), [0, 0, 1, 2, 0, 1, 2, 2, 1, 1, 0, 0], 0)
        self.check((4, 4, 2), [0, 0, 1, 2, 0, 1, 2, 2, 1, 1, 1, 0], 1)

    def test_the_greatest_first_square_is_in_form_but_outside(self):
        for direction, length in itertools.product((0, 1), range(1, 7)):
            self.check((6, 6, length), [7, 0, direction], 0)
            self.check((6, 6, length), [0, 7, direction], 0)
            self.check((6, 6, length), [7, 7, direction], 0)
            self.check((6, 6, length), [6, 0, direction], 0)
            self.check((6, 6, length), [0, 6, direction], 0)


class ForAllSizes(unittest.TestCase):
    """is_valid for every width, height and length from 1 to 6."""

    def test_the_arrangement_without_bars(self):
        for sizes in ALL_SIZES:
            self.assertEqual(is_valid(*sizes, []), [1], sizes)

    def test_every_single_bar(self):
        for sizes in ALL_SIZES:
            inside = bars_inside(*sizes)
            for bar in BARS_IN_FORM:
                self.assertEqual(is_valid(*sizes, list(bar)), [1] if bar in inside else [0], (sizes, bar))

    def test_every_pair_of_bars_inside(self):
        for sizes, bars in pairs_inside():
            expected = [0] if covered_squares(*sizes, bars) is None else [1]
            self.assertEqual(is_valid(*sizes, flat(bars)), expected, (sizes, bars))

    def test_pairs_with_a_bar_that_leaves_the_layer(self):
        for sizes, bars in pairs_with_a_bar_outside():
            self.assertEqual(is_valid(*sizes, flat(bars)), [0], (sizes, bars))


class Fillings(unittest.TestCase):
    """The bars that fill answers, and the same with one changed."""

    def test_they_are_valid_in_whatever_order(self):
        for sizes, bars in fillings_that_fit_in_a_list():
            for ordered in [bars] + other_orders(bars):
                self.assertEqual(is_valid(*sizes, flat(ordered)), [1], (sizes, ordered))

    def test_they_are_valid_without_one_of_them(self):
        for sizes, bars in fillings_that_fit_in_a_list():
            for at in range(len(bars)):
                self.assertEqual(is_valid(*sizes, flat(bars[:at] + bars[at + 1:])), [1], (sizes, at))

    def test_they_are_not_valid_with_one_of_them_twice(self):
        for sizes, bars in fillings_with_one_bar_twice():
            self.assertEqual(is_valid(*sizes, flat(bars)), [0], (sizes, bars))

    def test_they_are_not_valid_with_one_in_the_place_of_another(self):
        for sizes, bars in fillings_that_fit_in_a_list():
            if len(bars) > 1:
                self.assertEqual(is_valid(*sizes, flat(bars[:-1] + bars[:1])), [0], sizes)

    def test_there_are_fillings_of_the_greatest_list(self):
        longest = max(3 * len(bars) for sizes, bars in fillings_that_fit_in_a_list())
        self.assertEqual(longest, GREATEST_LIST)


class AtMostTheColourBound(unittest.TestCase):
    """A valid arrangement has at most as many bars as the rarest colour has squares."""

    def arrangements(self):
        """Bars in rows, for all sizes and both ways, with the colour bound."""
        for sizes in ALL_SIZES:
            for bars in packings_in_rows(*sizes):
                if 3 * len(bars) + 3 <= GREATEST_LIST:
                    yield sizes, bars, bounds(*sizes)[0]

    def test_bars_in_rows_are_valid_and_not_more(self):
        for sizes, bars, bound in self.arrangements():
            self.assertEqual(is_valid(*sizes, flat(bars)), [1], (sizes, bars))
            self.assertLessEqual(len(bars), bound, (sizes, bars))

    def test_a_packing_beyond_the_rows(self):
        self.assertEqual(is_valid(5, 5, 3, flat(PINWHEEL)), [1])
        self.assertEqual(bounds(5, 5, 3), [len(PINWHEEL), len(PINWHEEL) - 1])

    def test_no_bar_more_is_valid(self):
        reached = [(sizes, bars) for sizes, bars, bound in self.arrangements() if len(bars) == bound]
        for sizes, bars in reached + [((5, 5, 3), PINWHEEL)]:
            for bar in BARS_IN_FORM:
                self.assertEqual(is_valid(*sizes, flat(bars + [bar])), [0], (sizes, bars, bar))


if __name__ == "__main__":
    unittest.main()
