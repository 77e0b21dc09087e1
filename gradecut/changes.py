"""Least changes: new moves along the grain by which told seams meet in all sizes, as near to the old as can be."""

from gradecut.book import LONGEST_MOVE, all_within
from gradecut.errors import BadMove, NotAlong, SharedCorner, TooMany
from gradecut.sewing import check_corner, seam_meets, side_corners

MOST_TOLD = 8
LEAST_HEIGHT = 109
LONGEST_STEP = 9
# Where gy and ly stand in a spot.
GREATER = 3
LESSER = 5


def least_changes(book, told, kept=None):
    own_kept = [] if kept is None else list(kept)
    check_told(book, told, own_kept)
    # Each group holds upright sides that seams bind to one another, so all of them must grow alike.
    # A seam that is told again binds nothing new.
    groups = []
    for seam in told:
        groups = bound_together(groups, [lower_first(book, side) for side in book.seam(seam)[:2]])
        if not seam_meets(book, seam, 0) or not can_grow_alike(book, groups[-1], own_kept):
            return (seam, [])
    return (None, group_changes(book, groups, own_kept))


def check_told(book, told, kept):
    if len(told) > MOST_TOLD:
        raise TooMany("at most 8 seams are told")
    sides = []
    for seam in told:
        sides.extend(book.seam(seam)[:2])
    for corner in kept:
        check_corner(book, corner)
    check_sides(book, once_each(sides))


def check_sides(book, sides):
    corners = []
    for side in sides:
        if not runs_along(book, side):
            raise NotAlong("a side does not run along the grain")
        corners.extend(side_corners(book, side))
    if len(set(corners)) < len(corners):
        raise SharedCorner("two sides have a corner in common")


def once_each(those):
    return list(dict([(one, True) for one in those]).keys())


def runs_along(book, side):
    spots = [spot_of(book, corner) for corner in side_corners(book, side)]
    moves = [(spot[GREATER], spot[LESSER]) for spot in spots]
    upright = all([spots[0][k] == spots[1][k] for k in (0, 2, 4)])
    high = abs(spots[0][1] - spots[1][1]) >= LEAST_HEIGHT
    return upright and high and all_within(moves[0] + moves[1], LONGEST_STEP)


def spot_of(book, corner):
    return book.spots(corner[0])[corner[1]]


def lower_first(book, side):
    return tuple(sorted(side_corners(book, side), key=lambda corner: spot_of(book, corner)[1]))


def bound_together(groups, sides):
    # The group with the new sides stands last.
    touched = [group for group in groups if any([side in group for side in sides])]
    apart = [group for group in groups if group not in touched]
    whole = list(sides)
    for group in touched:
        whole.extend(group)
    return apart + [once_each(whole)]


def can_grow_alike(book, group, kept):
    return all([least_way(book, group, move, kept) is not None for move in (GREATER, LESSER)])


def group_changes(book, groups, kept):
    changes = []
    for group in groups:
        greater = least_way(book, group, GREATER, kept)[1]
        lesser = least_way(book, group, LESSER, kept)[1]
        for up, down in zip(greater, lesser):
            changes.append(up[0] + (up[1], down[1]))
    return sorted([change for change in changes if differs(book, change)])


def differs(book, change):
    spot = spot_of(book, change)
    return (spot[GREATER], spot[LESSER]) != change[2:]


def least_way(book, group, move, kept):
    # The seams of a group meet in the middle size, so they meet in all sizes where for each step every side of the
    # group grows by one and the same number. What gy is has no bearing on ly, nor one group on another, so each is
    # the first of the least by itself. A way is (sum, numbers), the numbers as (corner, new number), by corner.
    sides = [[end_of(book, corner, move, kept) for corner in side] for side in group]
    ways = [way_of_growth(sides, growth) for growth in range(-2 * LONGEST_STEP, 2 * LONGEST_STEP + 1)]
    return min([way for way in ways if way is not None], default=None)


def end_of(book, corner, move, kept):
    # The corner, its old number, and from where to where the new one may be.
    old = spot_of(book, corner)[move]
    if corner in kept:
        return (corner, old, old, old)
    return (corner, old, -LONGEST_STEP, LONGEST_STEP)


def way_of_growth(sides, growth):
    total = 0
    numbers = []
    for side in sides:
        changed = least_change(side[0], side[1], growth)
        if changed is None:
            return None
        total = total + changed[0]
        numbers.append((side[0][0], changed[1]))
        numbers.append((side[1][0], changed[1] + growth))
    return (total, sorted(numbers))


def least_change(lower, upper, growth):
    # Told as (sum, new number of the lower end). Both ends go up together, so of several with the least sum the one
    # with the lesser lower end has the lesser upper end too, and is the first whichever corner comes first.
    least = max(lower[2], upper[2] - growth)
    most = min(lower[3], upper[3] - growth)
    changed = [(abs(new - lower[1]) + abs(new + growth - upper[1]), new) for new in range(least, most + 1)]
    return min(changed, default=None)


def make_changes(book, changes):
    for change in changes:
        check_corner(book, change)
    if not all([all_within(change[2:], LONGEST_MOVE) for change in changes]):
        raise BadMove("a move runs from -200 to 200")
    for change in changes:
        spot = spot_of(book, change)
        book.set_moves(change[0], change[1], (spot[2], change[2]), (spot[4], change[3]))
