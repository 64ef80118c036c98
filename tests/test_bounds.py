"""Tests of bounds against the document's words, over all sizes that it allows."""

import unittest

from layerbars.layers import bounds, colour_counts
from support import ALL_SIZES, colours_of, covered_squares, divides_a_side, layer_squares, packings_in_rows


def plain_bounds(width, height, length):
    """The rarest colour by the words of "Colour", and the greater of the two numbers of the document."""
    rarest = min(colours_of(layer_squares(width, height), length))
    first = (width // length) * height + (height // length) * (width % length)
    second = (height // length) * width + (width // length) * (height % length)
    return [rarest, max(first, second)]


class ByHand(unittest.TestCase):
    """Numbers worked out by hand."""

    def test_length_1(self):
        self.assertEqual(bounds(1, 1, 1), [1, 1])
        self.assertEqual(bounds(2, 5, 1), [10, 10])
        self.assertEqual(bounds(6, 6, 1), [36, 36])

    def test_length_divides_a_side(self):
        self.assertEqual(bounds(4, 3, 2), [6, 6])
        self.assertEqual(bounds(3, 4, 2), [6, 6])
        self.assertEqual(bounds(6, 6, 6), [6, 6])
        self.assertEqual(bounds(6, 1, 6), [1, 1])
        self.assertEqual(bounds(1, 6, 6), [1, 1])

    def test_a_strip_is_left_beside_the_rows(self):
        self.assertEqual(bounds(5, 5, 2), [12, 12])
        self.assertEqual(bounds(5, 5, 4), [6, 6])
        self.assertEqual(bounds(6, 1, 4), [1, 1])
        self.assertEqual(bounds(1, 6, 4), [1, 1])

    def test_rows_hold_fewer_bars_than_the_rarest_colour_has_squares(self):
        self.assertEqual(bounds(5, 5, 3), [8, 7])
        self.assertEqual(bounds(2, 5, 3), [3, 2])
        self.assertEqual(bounds(5, 2, 3), [3, 2])
        self.assertEqual(bounds(3, 6, 4), [4, 3])
        self.assertEqual(bounds(6, 3, 4), [4, 3])

    def test_length_is_greater_than_width_and_height(self):
        self.assertEqual(bounds(2, 2, 3), [1, 0])
        self.assertEqual(bounds(4, 4, 5), [3, 0])
        self.assertEqual(bounds(5, 5, 6), [4, 0])

    def test_a_colour_that_no_square_has_is_the_rarest(self):
        self.assertEqual(bounds(1, 1, 2), [0, 0])
        self.assertEqual(bounds(1, 1, 6), [0, 0])
        self.assertEqual(bounds(2, 3, 6), [0, 0])
        self.assertEqual(bounds(3, 2, 6), [0, 0])


class ForAllSizes(unittest.TestCase):
    """bounds for every width, height and length from 1 to 6."""

    def test_it_is_the_plain_count_and_the_greater_of_the_two_numbers(self):
        for sizes in ALL_SIZES:
            self.assertEqual(bounds(*sizes), plain_bounds(*sizes), sizes)

    def test_the_first_number_is_that_of_the_rarest_colour(self):
        for sizes in ALL_SIZES:
            self.assertEqual(bounds(*sizes)[0], min(colour_counts(*sizes)[1:]), sizes)

    def test_the_second_number_is_that_of_bars_placed_in_rows(self):
        for sizes in ALL_SIZES:
            for bars in packings_in_rows(*sizes):
                self.assertIsNotNone(covered_squares(*sizes, bars), sizes)
                self.assertEqual(bounds(*sizes)[1], len(bars), sizes)

    def test_rows_hold_at_most_the_colour_bound(self):
        for sizes in ALL_SIZES:
            colour_bound, row_packing = bounds(*sizes)
            self.assertLessEqual(row_packing, colour_bound, sizes)

    def test_both_are_the_whole_layer_where_it_can_be_filled(self):
        for width, height, length in ALL_SIZES:
            if divides_a_side(width, height, length):
                bars = width * height // length
                self.assertEqual(bounds(width, height, length), [bars, bars], (width, height, length))

    def test_no_row_where_length_is_greater_than_width_and_height(self):
        for width, height, length in ALL_SIZES:
            self.assertEqual(bounds(width, height, length)[1] == 0, length > max(width, height),
                             (width, height, length))

    def test_no_colour_bound_where_a_colour_has_no_square(self):
        for width, height, length in ALL_SIZES:
            self.assertEqual(bounds(width, height, length)[0] == 0, length > width + height - 1,
                             (width, height, length))


if __name__ == "__main__":
    unittest.main()
