"""Tests of fill and can_fill against the document's words, over all sizes that it allows."""

import unittest

from layerbars.layers import can_fill, fill
from support import ALL_SIZES, bars_of, divides_a_side, flat, layer_squares, squares_of


def fillings(free, length):
    """All fillings of the free squares, in the order in which the depth-first search meets them."""
    if not free:
        yield []
        return
    x, y = free[0]
    for direction in (1, 0):
        bar = squares_of(x, y, direction, length)
        if bar <= set(free):
            left = [square for square in free if square not in bar]
            for rest in fillings(left, length):
                yield [(x, y, direction)] + rest


def first_filling(width, height, length):
    """The canonical filling as a list of bars, or None."""
    return next(fillings(layer_squares(width, height), length), None)


def expected_fill(width, height, length):
    """What fill is to answer, by the plain search of this file."""
    bars = first_filling(width, height, length)
    if bars is None:
        return [-33]
    return [len(bars)] + flat(bars)


class FillByHand(unittest.TestCase):
    """Lists worked out by hand, apart from every search."""

    def test_direction_1_is_tried_first_where_both_cover_the_same(self):
        self.assertEqual(fill(1, 1, 1), [1, 0, 0, 1])
        self.assertEqual(fill(2, 2, 1), [4, 0, 0, 1, 1, 0, 1, 0, 1, 1, 1, 1, 1])

    def test_direction_0_where_direction_1_leaves_the_layer(self):
        self.assertEqual(fill(1, 2, 2), [1, 0, 0, 0])
        self.assertEqual(fill(2, 3, 3), [2, 0, 0, 0, 1, 0, 0])

    def test_bars_stand_in_the_order_in_which_they_were_placed(self):
        self.assertEqual(fill(3, 2, 2), [3, 0, 0, 1, 2, 0, 0, 0, 1, 1])
        self.assertEqual(fill(3, 4, 2), [6, 0, 0, 1, 2, 0, 0, 0, 1, 1, 0, 2, 1, 2, 2, 0, 0, 3, 1])

    def test_one_bar_is_the_whole_layer(self):
        self.assertEqual(fill(6, 1, 6), [1, 0, 0, 1])
        self.assertEqual(fill(1, 6, 6), [1, 0, 0, 0])

    def test_a_bar_longer_than_the_layer(self):
        self.assertEqual(fill(1, 1, 2), [-33])
        self.assertEqual(fill(5, 5, 6), [-33])

    def test_the_area_divides_but_no_side_does(self):
        self.assertEqual(fill(2, 2, 4), [-33])
        self.assertEqual(fill(2, 3, 6), [-33])
        self.assertEqual(fill(6, 2, 4), [-33])


class FillForAllSizes(unittest.TestCase):
    """fill for every width, height and length from 1 to 6."""

    def test_it_is_the_canonical_filling(self):
        for sizes in ALL_SIZES:
            with self.subTest(sizes=sizes):
                self.assertEqual(fill(*sizes), expected_fill(*sizes))

    def test_the_bars_cover_the_layer_whole_and_once(self):
        for width, height, length in ALL_SIZES:
            answer = fill(width, height, length)
            if answer == [-33]:
                continue
            with self.subTest(width=width, height=height, length=length):
                self.assertEqual(len(answer), 1 + 3 * answer[0])
                self.assertTrue(all(bar[2] in (0, 1) for bar in bars_of(answer)))
                covered = [square for bar in bars_of(answer) for square in squares_of(*bar, length)]
                self.assertEqual(sorted(covered), sorted(layer_squares(width, height)))

    def test_it_refuses_just_where_length_divides_no_side(self):
        for width, height, length in ALL_SIZES:
            with self.subTest(width=width, height=height, length=length):
                self.assertEqual(fill(width, height, length) != [-33], divides_a_side(width, height, length))


class CanFillForAllSizes(unittest.TestCase):
    """can_fill for every width, height and length from 1 to 6."""

    def test_it_follows_de_bruijns_theorem(self):
        for width, height, length in ALL_SIZES:
            with self.subTest(width=width, height=height, length=length):
                expected = [1] if divides_a_side(width, height, length) else [0]
                self.assertEqual(can_fill(width, height, length), expected)

    def test_it_agrees_with_fill(self):
        for sizes in ALL_SIZES:
            with self.subTest(sizes=sizes):
                self.assertEqual(can_fill(*sizes), [0] if fill(*sizes) == [-33] else [1])

    def test_it_agrees_with_the_plain_search(self):
        for sizes in ALL_SIZES:
            with self.subTest(sizes=sizes):
                self.assertEqual(can_fill(*sizes), [0] if first_filling(*sizes) is None else [1])


if __name__ == "__main__":
    unittest.main()
