"""Tests of the document's examples and of its requirements, as the operations tell them together."""

import unittest

from layerbars.layers import bounds, can_fill, colour_counts, covered_colours, fill, free_squares, is_valid
from support import (ALL_SIZES, BARS_IN_FORM, GREATEST_LIST, PINWHEEL, bars_of, divides_a_side,
                     fillings_that_fit_in_a_list, fillings_with_one_bar_twice, flat, other_orders, packings_in_rows,
                     pairs_inside, pairs_with_a_bar_outside)

EXAMPLES = [
    (fill, (2, 2, 2), [2, 0, 0, 1, 0, 1, 1]),
    (can_fill, (6, 6, 4), [0]),
    (colour_counts, (6, 6, 4), [4, 9, 10, 9, 8]),
    (bounds, (6, 6, 4), [8, 8]),
    (is_valid, (3, 2, 2, [0, 0, 1, 2, 0, 0]), [1]),
    (covered_colours, (3, 2, 2, [0, 0, 1, 2, 0, 0]), [4, 2, 2]),
    (free_squares, (3, 2, 2, [0, 0, 1, 2, 0, 0]), [4, 0, 1, 1, 1]),
    (fill, (6, 6, 4), [-33]),
]


def packings():
    """The bars that fill answers and bars in rows, where these are at most 60 numbers, and the pinwheel."""
    yield from fillings_that_fit_in_a_list()
    for sizes in ALL_SIZES:
        for bars in packings_in_rows(*sizes):
            if 3 * len(bars) <= GREATEST_LIST:
                yield sizes, bars
    yield (5, 5, 3), PINWHEEL


def arrangements():
    """Arrangements in form, valid and not, with the sizes of their layers."""
    for sizes in ALL_SIZES:
        yield sizes, []
        for bar in BARS_IN_FORM:
            yield sizes, [bar]
    yield from pairs_inside()
    yield from pairs_with_a_bar_outside()
    yield from fillings_with_one_bar_twice()
    for sizes, bars in packings():
        for ordered in [bars] + other_orders(bars):
            for count in range(3, len(bars) + 1):
                yield sizes, ordered[:count]


def valid_arrangements():
    """Those of them that is_valid answers 1 of."""
    return ((sizes, bars) for sizes, bars in arrangements() if is_valid(*sizes, flat(bars)) == [1])


class Examples(unittest.TestCase):
    """The rows of the document, each of which is independent of the others."""

    def test_in_their_order(self):
        for operation, arguments, answer in EXAMPLES:
            self.assertEqual(operation(*arguments), answer, (operation.__name__, arguments))

    def test_from_the_last_to_the_first(self):
        for operation, arguments, answer in reversed(EXAMPLES):
            self.assertEqual(operation(*arguments), answer, (operation.__name__, arguments))


class Requirements(unittest.TestCase):
    """The five points, for every width, height and length from 1 to 6."""

    def test_1_a_layer_can_be_filled_just_where_length_divides_a_side(self):
        for sizes in ALL_SIZES:
            self.assertEqual(can_fill(*sizes), [1] if divides_a_side(*sizes) else [0], sizes)
            self.assertEqual(can_fill(*sizes) == [1], fill(*sizes) != [-33], sizes)

    def test_2_the_bars_of_fill_are_valid_and_cover_the_whole_layer(self):
        for width, height, length in ALL_SIZES:
            answer = fill(width, height, length)
            if answer != [-33]:
                self.assertEqual(len(answer), 1 + 3 * answer[0], (width, height, length))
                self.assertEqual(answer[0] * length, width * height, (width, height, length))
            if answer != [-33] and len(answer) - 1 <= GREATEST_LIST:
                self.assertEqual(is_valid(width, height, length, answer[1:]), [1], (width, height, length))
                self.assertEqual(free_squares(width, height, length, answer[1:]), [0], (width, height, length))

    def test_2_longer_answers_of_fill_are_valid_part_by_part(self):
        for sizes in ALL_SIZES:
            bars = bars_of(fill(*sizes))
            for part in (bars[:20], bars[-20:]):
                self.assertEqual(is_valid(*sizes, flat(part)), [1], sizes)

    def test_3_every_bar_covers_each_colour_once(self):
        for sizes, bars in valid_arrangements():
            expected = [len(bars) * sizes[2]] + [len(bars)] * sizes[2]
            self.assertEqual(covered_colours(*sizes, flat(bars)), expected, (sizes, bars))

    def test_3_no_more_bars_than_the_rarest_colour_has_squares(self):
        colours = {sizes: (colour_counts(*sizes)[1:], bounds(*sizes)[0]) for sizes in ALL_SIZES}
        for sizes, bars in valid_arrangements():
            counts, colour_bound = colours[sizes]
            self.assertLessEqual(len(bars), colour_bound, (sizes, bars))
            covered = covered_colours(*sizes, flat(bars))[1:]
            self.assertEqual(len(covered), len(counts), (sizes, bars))
            self.assertTrue(all(some <= count for some, count in zip(covered, counts)), (sizes, bars))

    def test_4_the_colour_counts_add_up_and_are_equal_just_where_length_divides_a_side(self):
        for width, height, length in ALL_SIZES:
            counts = colour_counts(width, height, length)[1:]
            self.assertEqual(sum(counts), width * height, (width, height, length))
            self.assertEqual(len(set(counts)) == 1, divides_a_side(width, height, length), (width, height, length))

    def test_5_rows_hold_at_most_the_colour_bound(self):
        for sizes in ALL_SIZES:
            colour_bound, row_packing = bounds(*sizes)
            self.assertLessEqual(row_packing, colour_bound, sizes)


class OperationsOnArrangements(unittest.TestCase):
    """The three operations say the same of an arrangement."""

    def test_covered_and_free_squares_are_the_layer(self):
        for sizes, bars in valid_arrangements():
            covered = covered_colours(*sizes, flat(bars))
            free = free_squares(*sizes, flat(bars))
            self.assertEqual(len(free), 1 + free[0], (sizes, bars))
            self.assertEqual(2 * covered[0] + free[0], 2 * sizes[0] * sizes[1], (sizes, bars))
            self.assertEqual(sum(covered[1:]), covered[0], (sizes, bars))

    def test_they_refuse_just_where_the_arrangement_is_not_valid(self):
        seen = set()
        for sizes, bars in arrangements():
            numbers = flat(bars)
            valid = is_valid(*sizes, numbers)
            self.assertIn(valid, ([0], [1]), (sizes, bars))
            self.assertEqual(covered_colours(*sizes, numbers) == [-33], valid == [0], (sizes, bars))
            self.assertEqual(free_squares(*sizes, numbers) == [-33], valid == [0], (sizes, bars))
            seen.update(valid)
        self.assertEqual(seen, {0, 1})


if __name__ == "__main__":
    unittest.main()
