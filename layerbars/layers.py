"""The operations on a layer that is packed with bars."""

GREATEST_SIZE = 6
# Beyond the last square of every layer: a bar that lies outside can still be in form.
GREATEST_COORDINATE = 7
OUT_OF_RANGE = -22
# One code for both: a layer that cannot be filled, and an arrangement that is not valid.
NO_VALID_ARRANGEMENT = -33


def fill(width, height, length):
    """Give back the number of bars of the canonical filling and then the bars, x, y and direction each."""
    if not sizes_in_range(width, height, length):
        return [OUT_OF_RANGE]
    bars = find_filling(width, height, length, [])
    if bars is None:
        return [NO_VALID_ARRANGEMENT]
    return [len(bars) // 3] + bars


def can_fill(width, height, length):
    """Give back [1] if the layer can be filled completely, otherwise [0]."""
    if not sizes_in_range(width, height, length):
        return [OUT_OF_RANGE]
    # De Bruijn's theorem answers this without a search.
    if width % length == 0 or height % length == 0:
        return [1]
    return [0]


def is_valid(width, height, length, bars):
    """Give back [1] if the bars lie inside the layer and do not overlap, otherwise [0]."""
    if not (sizes_in_range(width, height, length) and bars_in_form(bars)):
        return [OUT_OF_RANGE]
    if arrangement_squares(width, height, length, bars) is None:
        return [0]
    return [1]


def colour_counts(width, height, length):
    """Give back the length and then the number of squares of each colour, from colour 0 on."""
    if not sizes_in_range(width, height, length):
        return [OUT_OF_RANGE]
    return [length] + count_colours(layer_squares(width, height), length)


def bounds(width, height, length):
    """Give back the number of squares of the rarest colour and the number of bars that parallel rows hold."""
    if not sizes_in_range(width, height, length):
        return [OUT_OF_RANGE]
    colour_bound = min(count_colours(layer_squares(width, height), length))
    row_packing = max(bars_in_rows(width, height, length), bars_in_rows(height, width, length))
    return [colour_bound, row_packing]


def covered_colours(width, height, length, bars):
    """Give back the number of covered squares and then how many of them have each colour, from colour 0 on."""
    if not (sizes_in_range(width, height, length) and bars_in_form(bars)):
        return [OUT_OF_RANGE]
    covered = arrangement_squares(width, height, length, bars)
    if covered is None:
        return [NO_VALID_ARRANGEMENT]
    return [len(covered)] + count_colours(covered, length)


def free_squares(width, height, length, bars):
    """Give back twice the number of free squares and then their x and y, row by row."""
    if not (sizes_in_range(width, height, length) and bars_in_form(bars)):
        return [OUT_OF_RANGE]
    covered = arrangement_squares(width, height, length, bars)
    if covered is None:
        return [NO_VALID_ARRANGEMENT]
    coordinates = []
    for square in uncovered_squares(width, height, covered):
        coordinates.extend(square)
    return [len(coordinates)] + coordinates


def sizes_in_range(width, height, length):
    """Tell whether each of the three sizes is one that the operations take."""
    return all([1 <= size <= GREATEST_SIZE for size in (width, height, length)])


def bars_in_form(bars):
    """Tell whether the list holds three numbers for each bar and all of them are in range."""
    if len(bars) % 3 != 0:
        return False
    coordinates = bars[0::3] + bars[1::3]
    if not all([0 <= coordinate <= GREATEST_COORDINATE for coordinate in coordinates]):
        return False
    return all([direction in (0, 1) for direction in bars[2::3]])


def find_filling(width, height, length, covered):
    """Give back the bars that the depth-first search adds to the covered squares, or None if it finds no filling."""
    uncovered = uncovered_squares(width, height, covered)
    if len(uncovered) == 0:
        return []
    first = uncovered[0]
    # Direction 1 goes first: the canonical filling is the first one that is met in this order.
    for direction in (1, 0):
        bar = bar_squares(first[0], first[1], direction, length)
        if lies_inside(width, height, bar) and not overlaps(bar, covered):
            # At most 36 bars lie in a layer, so the calls within one another stay few.
            rest = find_filling(width, height, length, covered + bar)
            if rest is not None:
                return [first[0], first[1], direction] + rest
    return None


def arrangement_squares(width, height, length, bars):
    """Give back the squares that the bars cover, bar by bar, or None if the arrangement is not valid."""
    covered = []
    for start in range(0, len(bars), 3):
        bar = bar_squares(bars[start], bars[start + 1], bars[start + 2], length)
        if not lies_inside(width, height, bar) or overlaps(bar, covered):
            return None
        covered.extend(bar)
    return covered


def layer_squares(width, height):
    """Give back the squares of the layer, row by row."""
    squares = []
    for y in range(height):
        squares.extend([(x, y) for x in range(width)])
    return squares


def uncovered_squares(width, height, covered):
    """Give back the squares of the layer that are not covered, row by row."""
    return [square for square in layer_squares(width, height) if square not in covered]


def bar_squares(x, y, direction, length):
    """Give back the squares that a bar covers, its first square first."""
    if direction == 1:
        return [(x + step, y) for step in range(length)]
    return [(x, y + step) for step in range(length)]


def lies_inside(width, height, squares):
    """Tell whether every one of the squares belongs to the layer."""
    return all([square[0] < width and square[1] < height for square in squares])


def overlaps(squares, covered):
    """Tell whether one of the squares is covered already."""
    return any([square in covered for square in squares])


def count_colours(squares, length):
    """Give back the number of the squares of each of the colours 0 to length - 1."""
    counts = [0] * length
    for square in squares:
        counts[(square[0] + square[1]) % length] += 1
    return counts


def bars_in_rows(along, across, length):
    """Give back the number of bars in rows that run along, with the strip that they leave filled across."""
    return (along // length) * across + (across // length) * (along % length)
