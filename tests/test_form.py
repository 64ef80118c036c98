"""Tests of the form of bars and of the order of the refusals, for every operation on an arrangement."""

import itertools
import unittest

from layerbars.layers import is_valid
from support import GREATEST_LIST, GREATEST_NUMBER, ON_ARRANGEMENTS, bars_inside, flat, layer_squares

NOT_IN_FORM = "not in form"
NOT_VALID = "not valid"
VALID = "valid"
# Nothing at all, one bar that is valid, bars that overlap, bars that leave the layer, and many of each.
OTHERS = ([], [0, 0, 1], [0, 0, 1, 0, 0, 1], [7, 7, 1], [5, 5, 0, 0, 0, 0], [0, 0, 1] * 19, [7, 7, 0] * 19)
BARS_NOT_IN_FORM = ([8, 0, 0], [0, 8, 0], [0, 0, 2], [8, 8, 2], [9, 0, 1], [0, 9, 1], [0, 0, 3], [255, 0, 0],
                    [GREATEST_NUMBER, 0, 0], [0, GREATEST_NUMBER, 0], [0, 0, GREATEST_NUMBER],
                    [8, 0, 1], [0, 8, 1], [GREATEST_NUMBER, 0, 1], [0, GREATEST_NUMBER, 1],
                    [7, 7, 2], [7, 7, GREATEST_NUMBER], [GREATEST_NUMBER] * 3)


def kind_of(operation, sizes, bars):
    """What an answer says of the arrangement, be it an operation's refusal or is_valid's plain answer."""
    answer = operation(*sizes, bars)
    if answer == [-22]:
        return NOT_IN_FORM
    if answer == ([0] if operation is is_valid else [-33]):
        return NOT_VALID
    return VALID


class Form(unittest.TestCase):
    """-22 just where bars does not have the required form, ahead of an arrangement that is not valid."""

    def check(self, sizes, bars, expected):
        for operation in ON_ARRANGEMENTS:
            self.assertEqual(kind_of(operation, sizes, bars), expected, (operation.__name__, sizes, bars))

    def test_a_number_out_of_range_in_the_first_bar_and_in_the_last(self):
        for bar, others in itertools.product(BARS_NOT_IN_FORM, OTHERS):
            for sizes in ((3, 2, 2), (6, 6, 1), (1, 1, 6)):
                self.check(sizes, bar + others, NOT_IN_FORM)
                self.check(sizes, others + bar, NOT_IN_FORM)

    def test_a_number_out_of_range_between_bars(self):
        for bar in BARS_NOT_IN_FORM:
            self.check((3, 2, 2), [0, 0, 1] + bar + [2, 0, 0], NOT_IN_FORM)

    def test_each_number_up_to_its_greatest_and_past_it(self):
        for number in list(range(12)) + [255, 65536, GREATEST_NUMBER]:
            for bar, greatest in (((number, 0, 0), 7), ((0, number, 0), 7), ((0, 0, number), 1)):
                for sizes in ((1, 1, 1), (6, 6, 1), (6, 6, 6)):
                    in_form = VALID if bar in bars_inside(*sizes) else NOT_VALID
                    self.check(sizes, list(bar), in_form if number <= greatest else NOT_IN_FORM)

    def test_a_length_that_three_does_not_divide(self):
        for count in range(GREATEST_LIST + 1):
            for number in (0, 1):
                in_form = VALID if count <= 3 else NOT_VALID
                self.check((6, 6, 2), [number] * count, NOT_IN_FORM if count % 3 else in_form)

    def test_numbers_left_over_behind_bars_of_every_kind(self):
        for others, left in itertools.product(OTHERS, ([0], [0, 0], [1], [7, 7], [8], [GREATEST_NUMBER] * 2)):
            self.check((6, 6, 2), others + left, NOT_IN_FORM)
            self.check((6, 6, 2), left + others, NOT_IN_FORM)

    def test_lists_of_60_numbers(self):
        bars = [(x, y, 1) for x, y in layer_squares(6, 6)[:20]]
        self.check((6, 6, 1), flat(bars), VALID)
        self.check((6, 3, 1), flat(bars), NOT_VALID)
        self.check((6, 6, 1), flat(bars[:19] + bars[:1]), NOT_VALID)
        self.check((6, 6, 1), flat(bars[:19] + [(7, 7, 0)]), NOT_VALID)
        self.check((6, 6, 1), flat(bars[:19] + [(5, 5, 0)]), VALID)
        for at, bar in itertools.product(range(20), BARS_NOT_IN_FORM):
            changed = flat(bars[:at] + [bar] + bars[at + 1:])
            self.assertEqual(len(changed), GREATEST_LIST)
            self.check((6, 6, 1), changed, NOT_IN_FORM)

    def test_a_size_out_of_range_goes_ahead_of_an_arrangement_that_is_not_valid(self):
        for bars in ([0, 0, 1, 0, 0, 1], [7, 7, 1], [0, 0, 0, 0, 0, 0], [0, 0, 1] * 20):
            self.check((6, 6, 2), bars, NOT_VALID)
            for sizes in ((0, 6, 2), (6, 0, 2), (6, 6, 0), (7, 6, 2), (6, 7, 2), (6, 6, 7),
                          (GREATEST_NUMBER, 6, 2), (6, GREATEST_NUMBER, 2), (6, 6, GREATEST_NUMBER)):
                self.check(sizes, bars, NOT_IN_FORM)


if __name__ == "__main__":
    unittest.main()
