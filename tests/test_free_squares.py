"""Tests of free_squares against the document's words, over all sizes that it allows."""

import unittest

from layerbars.layers import free_squares
from support import (ALL_SIZES, PINWHEEL, bars_inside, bars_outside, covered_squares, fillings_that_fit_in_a_list,
                     fillings_with_one_bar_twice, flat, layer_squares, other_orders, pairs_inside,
                     pairs_with_a_bar_outside, squares_of)


def answer_of(squares):
    """The answer for these free squares: by the words of "Layer" ordered by y, then by x."""
    ordered = sorted(squares, key=lambda square: (square[1], square[0]))
    return [2 * len(ordered)] + flat(ordered)


def plain_answer(width, height, length, bars):
    """What free_squares is to answer, by the words of "Layer" and "Bar"."""
    covered = covered_squares(width, height, length, bars)
    if covered is None:
        return [-33]
    return answer_of(set(layer_squares(width, height)) - covered)


class ByHand(unittest.TestCase):
    """Answers worked out by hand."""

    def test_without_bars(self):
        self.assertEqual(free_squares(1, 1, 1, []), [2, 0, 0])
        self.assertEqual(free_squares(3, 2, 6, []), [12, 0, 0, 1, 0, 2, 0, 0, 1, 1, 1, 2, 1])
        self.assertEqual(free_squares(2, 3, 1, []), [12, 0, 0, 1, 0, 0, 1, 1, 1, 0, 2, 1, 2])

    def test_x_stands_ahead_of_y(self):
        self.assertEqual(free_squares(2, 1, 1, [0, 0, 1]), [2, 1, 0])
        self.assertEqual(free_squares(1, 2, 1, [0, 0, 1]), [2, 0, 1])

    def test_a_bar_along_y_leaves_squares_of_each_row(self):
        self.assertEqual(free_squares(3, 2, 2, [1, 0, 0]), [8, 0, 0, 2, 0, 0, 1, 2, 1])
        self.assertEqual(free_squares(2, 3, 3, [1, 0, 0]), [6, 0, 0, 0, 1, 0, 2])

    def test_no_square_is_free(self):
        self.assertEqual(free_squares(1, 1, 1, [0, 0, 0]), [0])
        self.assertEqual(free_squares(2, 2, 2, [0, 0, 1, 0, 1, 1]), [0])
        self.assertEqual(free_squares(2, 2, 2, [1, 0, 0, 0, 0, 0]), [0])

    def test_the_middle_alone_is_free(self):
        self.assertEqual(free_squares(5, 5, 3, flat(PINWHEEL)), [2, 2, 2])

    def test_a_bar_that_leaves_the_layer(self):
        self.assertEqual(free_squares(3, 2, 2, [2, 0, 1]), [-33])
        self.assertEqual(free_squares(3, 2, 2, [0, 1, 0]), [-33])
        self.assertEqual(free_squares(3, 2, 2, [0, 0, 1, 7, 7, 0]), [-33])
        self.assertEqual(free_squares(1, 1, 6, [0, 0, 1]), [-33])

    def test_bars_that_overlap(self):
        self.assertEqual(free_squares(3, 2, 2, [0, 0, 1, 1, 0, 0]), [-33])
        self.assertEqual(free_squares(3, 3, 3, [0, 1, 1, 1, 0, 0]), [-33])
        self.assertEqual(free_squares(1, 1, 1, [0, 0, 0, 0, 0, 1]), [-33])


class ForAllSizes(unittest.TestCase):
    """free_squares for every width, height and length from 1 to 6."""

    def test_the_arrangement_without_bars_leaves_every_square_row_by_row(self):
        for width, height, length in ALL_SIZES:
            expected = [2 * width * height]
            for y in range(height):
                for x in range(width):
                    expected += [x, y]
            self.assertEqual(free_squares(width, height, length, []), expected, (width, height, length))

    def test_every_single_bar_inside(self):
        for sizes in ALL_SIZES:
            for bar in bars_inside(*sizes):
                self.assertEqual(free_squares(*sizes, list(bar)), plain_answer(*sizes, [bar]), (sizes, bar))

    def test_every_single_bar_that_leaves_the_layer(self):
        for sizes in ALL_SIZES:
            for bar in bars_outside(*sizes):
                self.assertEqual(free_squares(*sizes, list(bar)), [-33], (sizes, bar))

    def test_every_pair_of_bars_inside(self):
        for sizes, bars in pairs_inside():
            self.assertEqual(free_squares(*sizes, flat(bars)), plain_answer(*sizes, bars), (sizes, bars))

    def test_pairs_with_a_bar_that_leaves_the_layer(self):
        for sizes, bars in pairs_with_a_bar_outside():
            self.assertEqual(free_squares(*sizes, flat(bars)), [-33], (sizes, bars))


class Fillings(unittest.TestCase):
    """The bars that fill answers, and the same with one changed."""

    def test_they_leave_no_square_in_whatever_order(self):
        for sizes, bars in fillings_that_fit_in_a_list():
            for ordered in [bars] + other_orders(bars):
                self.assertEqual(free_squares(*sizes, flat(ordered)), [0], (sizes, ordered))

    def test_without_one_of_them_its_squares_are_left(self):
        directions = set()
        for sizes, bars in fillings_that_fit_in_a_list():
            for at, bar in enumerate(bars):
                left = bars[:at] + bars[at + 1:]
                expected = answer_of(squares_of(*bar, sizes[2]))
                for ordered in [left] + other_orders(left):
                    self.assertEqual(free_squares(*sizes, flat(ordered)), expected, (sizes, bar, ordered))
                directions.add(bar[2])
        self.assertEqual(directions, {0, 1})

    def test_with_one_of_them_twice(self):
        for sizes, bars in fillings_with_one_bar_twice():
            self.assertEqual(free_squares(*sizes, flat(bars)), [-33], (sizes, bars))


if __name__ == "__main__":
    unittest.main()
