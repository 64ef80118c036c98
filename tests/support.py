"""What the tests share: the arguments that they go through, and the document's words in their plainest form."""

import itertools

from layerbars.layers import bounds, can_fill, colour_counts, covered_colours, fill, free_squares, is_valid

ON_SIZES = (fill, can_fill, colour_counts, bounds)
ON_ARRANGEMENTS = (is_valid, covered_colours, free_squares)
SIZES = range(1, 7)
ALL_SIZES = list(itertools.product(SIZES, repeat=3))
GREATEST_NUMBER = 4294967295
OUTSIDE = (0, 7, 8, 255, 256, 65536, 2147483648, GREATEST_NUMBER)
EDGES = (0, 1, 6, 7, GREATEST_NUMBER)
GREATEST_LIST = 60
BARS_IN_FORM = list(itertools.product(range(8), range(8), (0, 1)))
# Two bars beside each other at each edge of a layer of 5 by 5, turned from edge to edge; the middle stays free.
PINWHEEL = [(0, 0, 1), (0, 1, 1), (3, 0, 0), (4, 0, 0), (2, 3, 1), (2, 4, 1), (0, 2, 0), (1, 2, 0)]


def layer_squares(width, height):
    """The squares of the layer, row by row."""
    return [(x, y) for y in range(height) for x in range(width)]


def squares_of(x, y, direction, length):
    """The squares of a bar, by the words of "Bar"."""
    if direction == 1:
        return {(x + step, y) for step in range(length)}
    return {(x, y + step) for step in range(length)}


def covered_squares(width, height, length, bars):
    """The squares that the bars cover, by the words of "Valid arrangement", or None where they are not valid."""
    layer = set(layer_squares(width, height))
    covered = set()
    for bar in bars:
        squares = squares_of(*bar, length)
        if not squares <= layer or squares & covered:
            return None
        covered |= squares
    return covered


def colours_of(squares, length):
    """The number of the squares of each colour, by the words of "Colour"."""
    colours = [(x + y) % length for x, y in squares]
    return [colours.count(colour) for colour in range(length)]


def flat(groups):
    """The numbers of the groups as one list, one group behind another."""
    return [number for group in groups for number in group]


def divides_a_side(width, height, length):
    """The condition of de Bruijn's theorem."""
    return width % length == 0 or height % length == 0


def bars_inside(width, height, length):
    """The bars in form that lie inside the layer, by the words of "Bar" and "Layer"."""
    layer = set(layer_squares(width, height))
    return [bar for bar in BARS_IN_FORM if squares_of(*bar, length) <= layer]


def bars_outside(width, height, length):
    """The bars in form that leave the layer."""
    inside = bars_inside(width, height, length)
    return [bar for bar in BARS_IN_FORM if bar not in inside]


def pairs_inside():
    """All sizes with every pair of bars that lie inside the layer, overlapping or not, in both orders."""
    for sizes in ALL_SIZES:
        for pair in itertools.product(bars_inside(*sizes), repeat=2):
            yield sizes, list(pair)


def pairs_with_a_bar_outside():
    """All sizes with pairs of bars of which one or both leave the layer."""
    for sizes in ALL_SIZES:
        inside, outside = bars_inside(*sizes), bars_outside(*sizes)
        for kept, left in itertools.product(inside[:1] + inside[-1:], outside):
            yield sizes, [kept, left]
            yield sizes, [left, kept]
        for first, second in zip(outside, reversed(outside)):
            yield sizes, [first, second]


def fillings_that_fit_in_a_list():
    """The sizes that fill has an answer for, with its bars, where these are at most 60 numbers."""
    for sizes in ALL_SIZES:
        if divides_a_side(*sizes) and 3 * fill(*sizes)[0] <= GREATEST_LIST:
            yield sizes, bars_of(fill(*sizes))


def fillings_with_one_bar_twice():
    """The same with one of the bars a second time, behind the others and ahead of them."""
    for sizes, bars in fillings_that_fit_in_a_list():
        if 3 * len(bars) + 3 <= GREATEST_LIST:
            for bar in bars:
                yield sizes, bars + [bar]
                yield sizes, [bar] + bars


def other_orders(bars):
    """The bars from the last to the first, and every second one of them ahead of the others."""
    return [bars[::-1], bars[1::2] + bars[0::2]]


def bars_of(answer):
    """The bars in an answer of fill, three numbers each."""
    return [tuple(answer[at:at + 3]) for at in range(1, len(answer), 3)]


def rows_and_strip(width, height, length):
    """Bars in rows along x from the left, and bars along y in the strip that the rows leave."""
    columns = width // length * length
    rows = [(x, y, 1) for y in range(height) for x in range(0, columns, length)]
    strip = [(x, y, 0) for x in range(columns, width) for y in range(0, height - length + 1, length)]
    return rows + strip


def turned(bars):
    """The bars with x and y, and so both directions, changed for one another."""
    return [(y, x, 1 - direction) for x, y, direction in bars]


def packings_in_rows(width, height, length):
    """The layer packed in rows along x and in rows along y."""
    return [rows_and_strip(width, height, length), turned(rows_and_strip(height, width, length))]


def edge_cases():
    """Each size at each edge, with the others at every number in range and at some out of it.

    The smaller numbers come first: a program that has lost a range is to fail there, not to work through a layer of
    4294967295 squares.
    """
    others = list(SIZES) + list(OUTSIDE)
    cases = set()
    for edge, second, third in itertools.product(EDGES, others, others):
        cases.update([(edge, second, third), (second, edge, third), (second, third, edge)])
    return sorted(cases, key=max)
