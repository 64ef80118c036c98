"""Tests of colour_counts against the document's words, over all sizes that it allows."""

import unittest

from layerbars.layers import colour_counts, fill
from support import ALL_SIZES, BARS_IN_FORM, colours_of, divides_a_side, layer_squares, squares_of


def corner_counts(width, height, length):
    """What colour_counts says of a corner of a layer, which may be without squares."""
    if width == 0 or height == 0:
        return [0] * length
    return colour_counts(width, height, length)[1:]


def counts_within(left, right, low, high, length):
    """The colours of the squares with left <= x < right and low <= y < high, told from four corners."""
    corners = [corner_counts(right, high, length), corner_counts(left, high, length),
               corner_counts(right, low, length), corner_counts(left, low, length)]
    return [whole - beside - below + both for whole, beside, below, both in zip(*corners)]


class ByHand(unittest.TestCase):
    """Counts worked out by hand."""

    def test_one_colour(self):
        self.assertEqual(colour_counts(1, 1, 1), [1, 1])
        self.assertEqual(colour_counts(6, 6, 1), [1, 36])
        self.assertEqual(colour_counts(2, 5, 1), [1, 10])

    def test_colour_0_is_the_one_of_the_first_square(self):
        self.assertEqual(colour_counts(5, 5, 2), [2, 13, 12])
        self.assertEqual(colour_counts(1, 1, 2), [2, 1, 0])

    def test_the_colours_stand_in_their_order(self):
        self.assertEqual(colour_counts(6, 1, 4), [4, 2, 2, 1, 1])
        self.assertEqual(colour_counts(1, 6, 4), [4, 2, 2, 1, 1])

    def test_length_is_greater_than_width_and_height(self):
        self.assertEqual(colour_counts(1, 1, 6), [6, 1, 0, 0, 0, 0, 0])
        self.assertEqual(colour_counts(2, 3, 6), [6, 1, 2, 2, 1, 0, 0])
        self.assertEqual(colour_counts(3, 2, 6), [6, 1, 2, 2, 1, 0, 0])
        self.assertEqual(colour_counts(2, 2, 3), [3, 1, 2, 1])
        self.assertEqual(colour_counts(5, 5, 6), [6, 4, 4, 4, 4, 5, 4])

    def test_equal_counts(self):
        self.assertEqual(colour_counts(6, 6, 6), [6, 6, 6, 6, 6, 6, 6])
        self.assertEqual(colour_counts(4, 3, 2), [2, 6, 6])
        self.assertEqual(colour_counts(3, 4, 2), [2, 6, 6])


class ForAllSizes(unittest.TestCase):
    """colour_counts for every width, height and length from 1 to 6."""

    def test_it_is_the_plain_count(self):
        for sizes in ALL_SIZES:
            self.assertEqual(colour_counts(*sizes), [sizes[2]] + colours_of(layer_squares(*sizes[:2]), sizes[2]), sizes)

    def test_there_is_a_count_for_each_colour(self):
        for sizes in ALL_SIZES:
            self.assertEqual(len(colour_counts(*sizes)), 1 + sizes[2], sizes)

    def test_the_counts_add_up_to_the_layer(self):
        for width, height, length in ALL_SIZES:
            counts = colour_counts(width, height, length)[1:]
            self.assertEqual(sum(counts), width * height, (width, height, length))

    def test_the_counts_are_equal_just_where_length_divides_a_side(self):
        for sizes in ALL_SIZES:
            equal = len(set(colour_counts(*sizes)[1:])) == 1
            self.assertEqual(equal, divides_a_side(*sizes), sizes)


class BarsAndColours(unittest.TestCase):
    """Every bar covers each colour exactly once."""

    def test_every_bar_that_lies_in_the_greatest_layer(self):
        layer = set(layer_squares(6, 6))
        for length in range(1, 7):
            for x, y, direction in BARS_IN_FORM:
                if squares_of(x, y, direction, length) <= layer:
                    right, high = (x + length, y + 1) if direction == 1 else (x + 1, y + length)
                    counts = counts_within(x, right, y, high, length)
                    self.assertEqual(counts, [1] * length, (x, y, direction, length))

    def test_a_layer_that_can_be_filled_has_each_colour_once_for_each_bar(self):
        for sizes in ALL_SIZES:
            if divides_a_side(*sizes):
                self.assertEqual(colour_counts(*sizes)[1:], [fill(*sizes)[0]] * sizes[2], sizes)


if __name__ == "__main__":
    unittest.main()
