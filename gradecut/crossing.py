"""Crossings: sides of a closed line that have a point in common."""


def crossing(corners):
    for i in range(len(corners)):
        for j in range(i, len(corners)):
            if sides_cross(corners, i, j):
                return (i, j)
    return None


def sides_cross(corners, i, j):
    # Asked with i <= j, so the sides with a corner in common are a side and the next one, and the first and the last.
    one = side_ends(corners, i)
    two = side_ends(corners, j)
    if i == j:
        return one[0] == one[1]
    if j == i + 1:
        return run_together(one[1], one[0], two[1])
    if j + 1 == len(corners) and i == 0:
        return run_together(one[0], one[1], two[0])
    return have_common_point(one, two)


def side_ends(corners, k):
    return (corners[k], corners[(k + 1) % len(corners)])


def run_together(corner, one, two):
    # Two sides from one corner have another point in common only where both leave it the same way.
    return turn(corner, one, two) == 0 and along(corner, one, two) > 0


def have_common_point(one, two):
    # Sides on one line count as reaching across each other however far apart they lie; there only the spans tell.
    if not spans_meet(one, two, 0) or not spans_meet(one, two, 1):
        return False
    return reaches_across(one, two) and reaches_across(two, one)


def spans_meet(one, two, axis):
    one_span = sorted([one[0][axis], one[1][axis]])
    two_span = sorted([two[0][axis], two[1][axis]])
    return one_span[0] <= two_span[1] and two_span[0] <= one_span[1]


def reaches_across(side, line):
    return turn(line[0], line[1], side[0]) * turn(line[0], line[1], side[1]) <= 0


def turn(start, one, two):
    # Above 0 where the way from start to two lies left of the way to one, 0 where both lie on one line.
    return (one[0] - start[0]) * (two[1] - start[1]) - (one[1] - start[1]) * (two[0] - start[0])


def along(start, one, two):
    return (one[0] - start[0]) * (two[0] - start[0]) + (one[1] - start[1]) * (two[1] - start[1])
