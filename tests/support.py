"""What the tests share: the arguments that they go through, and the document's words in their plainest form."""

import itertools

SIZES = range(1, 7)
ALL_SIZES = list(itertools.product(SIZES, repeat=3))
GREATEST_NUMBER = 4294967295
OUTSIDE = (0, 7, 8, 255, 256, 65536, 2147483648, GREATEST_NUMBER)
EDGES = (0, 1, 6, 7, GREATEST_NUMBER)
GREATEST_LIST = 60
BARS_IN_FORM = list(itertools.product(range(8), range(8), (0, 1)))


def layer_squares(width, height):
    """The squares of the layer, row by row."""
    return [(x, y) for y in range(height) for x in range(width)]


def squares_of(x, y, direction, length):
    """The squares of a bar, by the words of "Bar"."""
    if direction == 1:
        return {(x + step, y) for step in range(length)}
    return {(x, y + step) for step in range(length)}


def flat(bars):
    """The bars as one list, one bar behind another."""
    return [number for bar in bars for number in bar]


def divides_a_side(width, height, length):
    """The condition of de Bruijn's theorem."""
    return width % length == 0 or height % length == 0


def edge_cases():
    """Each size at each edge, with the others at every number in range and at some out of it.

    The smaller numbers come first: a program that has lost a range is to fail there, not to work through a layer of
    4294967295 squares.
    """
    others = list(SIZES) + list(OUTSIDE)
    cases = set()
    for edge, second, third in itertools.product(EDGES, others, others):
        cases.update([(edge, second, third), (second, edge, third), (second, third, edge)])
    return sorted(cases, key=max)
