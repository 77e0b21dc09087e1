"""Hems: the outline that runs beside a closed line at a breadth, its corners told as fractions."""

from gradecut.crossing import crossing, side_ends
from gradecut.errors import Crossed
from gradecut.lengths import square, whole_root
from gradecut.shares import greatest_divisor, lowest_terms


def outline(corners, breadth):
    if crossing(corners) is not None:
        raise Crossed("the line crosses itself")
    leftward = runs_leftward(corners)
    outward = [outward_vector(corners, k, leftward) for k in range(len(corners))]
    # The side that ends in corner 0 is the last one, which stands at -1.
    return [hem_corner(corners[k], outward[k - 1], outward[k], breadth) for k in range(len(corners))]


def runs_leftward(corners):
    # Twice the area is above 0 where the piece lies to the left of its sides.
    doubled = 0
    for k, corner in enumerate(corners):
        before = corners[k - 1]
        doubled = doubled + before[0] * corner[1] - before[1] * corner[0]
    return doubled > 0


def outward_vector(corners, k, leftward):
    ends = side_ends(corners, k)
    across = ends[1][0] - ends[0][0]
    up = ends[1][1] - ends[0][1]
    divisor = greatest_divisor(abs(across), abs(up))
    p = across // divisor
    q = up // divisor
    return (q, -p) if leftward else (-q, p)


def hem_corner(corner, before, after, breadth):
    # The vectors of a line that doesn't cross itself never point against each other at a corner,
    # so where they lie on one line they are the same.
    cut = before[0] * after[1] - before[1] * after[0]
    if cut == 0:
        return beside(corner, after, breadth)
    return where_they_cut(corner, before, after, cut, breadth)


def beside(corner, vector, breadth):
    root = thousandfold_length(vector)
    across = 1000 * breadth * vector[0]
    up = 1000 * breadth * vector[1]
    return (moved_number(corner[0], across, root), moved_number(corner[1], up, root))


def where_they_cut(corner, before, after, cut, breadth):
    # Seen from the corner, a hem line holds the points whose product with its vector is 1000 * breadth * n / r;
    # both products are brought to the denominator before_root * after_root.
    before_root = thousandfold_length(before)
    after_root = thousandfold_length(after)
    before_product = 1000 * breadth * square_of(before) * after_root
    after_product = 1000 * breadth * square_of(after) * before_root
    across = before_product * after[1] - after_product * before[1]
    up = after_product * before[0] - before_product * after[0]
    whole = cut * before_root * after_root
    return (moved_number(corner[0], across, whole), moved_number(corner[1], up, whole))


def square_of(vector):
    return square((0, 0), vector)


def thousandfold_length(vector):
    return whole_root(1000000 * square_of(vector))


def moved_number(number, part, whole):
    if whole < 0:
        return moved_number(number, -part, -whole)
    return lowest_terms(number * whole + part, whole)
