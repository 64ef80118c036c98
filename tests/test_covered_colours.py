"""Tests of covered_colours against the document's words, over all sizes that it allows."""

import unittest

from layerbars.layers import covered_colours
from support import (ALL_SIZES, PINWHEEL, bars_inside, bars_outside, colours_of, covered_squares,
                     fillings_that_fit_in_a_list, fillings_with_one_bar_twice, flat, other_orders, pairs_inside,
                     pairs_with_a_bar_outside)


def plain_answer(width, height, length, bars):
    """What covered_colours is to answer, by the words of "Bar" and "Colour"."""
    covered = covered_squares(width, height, length, bars)
    if covered is None:
        return [-33]
    return [len(covered)] + colours_of(covered, length)


class ByHand(unittest.TestCase):
    """Answers worked out by hand."""

    def test_without_bars(self):
        self.assertEqual(covered_colours(1, 1, 1, []), [0, 0])
        self.assertEqual(covered_colours(6, 6, 4, []), [0, 0, 0, 0, 0])
        self.assertEqual(covered_colours(1, 1, 6, []), [0, 0, 0, 0, 0, 0, 0])

    def test_one_bar(self):
        self.assertEqual(covered_colours(6, 6, 4, [2, 5, 1]), [4, 1, 1, 1, 1])
        self.assertEqual(covered_colours(6, 6, 4, [5, 2, 0]), [4, 1, 1, 1, 1])
        self.assertEqual(covered_colours(1, 1, 1, [0, 0, 0]), [1, 1])

    def test_a_whole_layer(self):
        self.assertEqual(covered_colours(2, 2, 2, [0, 0, 1, 0, 1, 1]), [4, 2, 2])
        self.assertEqual(covered_colours(2, 2, 2, [1, 0, 0, 0, 0, 0]), [4, 2, 2])

    def test_a_packing_beyond_the_rows(self):
        self.assertEqual(covered_colours(5, 5, 3, flat(PINWHEEL)), [24, 8, 8, 8])

    def test_a_bar_that_leaves_the_layer(self):
        self.assertEqual(covered_colours(3, 2, 2, [2, 0, 1]), [-33])
        self.assertEqual(covered_colours(3, 2, 2, [0, 1, 0]), [-33])
        self.assertEqual(covered_colours(3, 2, 2, [0, 0, 1, 7, 7, 0]), [-33])
        self.assertEqual(covered_colours(1, 1, 6, [0, 0, 1]), [-33])

    def test_bars_that_overlap(self):
        self.assertEqual(covered_colours(3, 2, 2, [0, 0, 1, 1, 0, 0]), [-33])
        self.assertEqual(covered_colours(3, 3, 3, [0, 1, 1, 1, 0, 0]), [-33])
        self.assertEqual(covered_colours(1, 1, 1, [0, 0, 0, 0, 0, 1]), [-33])


class ForAllSizes(unittest.TestCase):
    """covered_colours for every width, height and length from 1 to 6."""

    def test_the_arrangement_without_bars(self):
        for sizes in ALL_SIZES:
            self.assertEqual(covered_colours(*sizes, []), [0] + [0] * sizes[2], sizes)

    def test_every_single_bar_inside_covers_each_colour_once(self):
        for sizes in ALL_SIZES:
            for bar in bars_inside(*sizes):
                self.assertEqual(covered_colours(*sizes, list(bar)), [sizes[2]] + [1] * sizes[2], (sizes, bar))

    def test_every_single_bar_that_leaves_the_layer(self):
        for sizes in ALL_SIZES:
            for bar in bars_outside(*sizes):
                self.assertEqual(covered_colours(*sizes, list(bar)), [-33], (sizes, bar))

    def test_every_pair_of_bars_inside(self):
        for sizes, bars in pairs_inside():
            self.assertEqual(covered_colours(*sizes, flat(bars)), plain_answer(*sizes, bars), (sizes, bars))

    def test_pairs_with_a_bar_that_leaves_the_layer(self):
        for sizes, bars in pairs_with_a_bar_outside():
            self.assertEqual(covered_colours(*sizes, flat(bars)), [-33], (sizes, bars))


class Fillings(unittest.TestCase):
    """The bars that fill answers, and the same with one changed."""

    def test_they_cover_each_colour_once_for_each_bar_in_whatever_order(self):
        for sizes, bars in fillings_that_fit_in_a_list():
            expected = [sizes[0] * sizes[1]] + [len(bars)] * sizes[2]
            for ordered in [bars] + other_orders(bars):
                self.assertEqual(covered_colours(*sizes, flat(ordered)), expected, (sizes, ordered))

    def test_without_one_of_them(self):
        for sizes, bars in fillings_that_fit_in_a_list():
            expected = [sizes[0] * sizes[1] - sizes[2]] + [len(bars) - 1] * sizes[2]
            for at in range(len(bars)):
                left = bars[:at] + bars[at + 1:]
                self.assertEqual(covered_colours(*sizes, flat(left)), expected, (sizes, at))

    def test_with_one_of_them_twice(self):
        for sizes, bars in fillings_with_one_bar_twice():
            self.assertEqual(covered_colours(*sizes, flat(bars)), [-33], (sizes, bars))


if __name__ == "__main__":
    unittest.main()
