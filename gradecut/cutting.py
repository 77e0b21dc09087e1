"""Cutting: pieces of a book in their sizes, with a hem, and laid out on cloth."""

from gradecut.cloth import MOST_OBLONGS, lay
from gradecut.crossing import crossing
from gradecut.errors import Crossed, TooMany
from gradecut.hems import outline


def hemmed(book, piece, breadth, size=None):
    return outline(book.corners(piece, size), breadth)


def lay_out(book, wanted, width, room=0):
    check_wanted(book, wanted)
    lines = [book.corners(one[0], one[1]) for one in wanted]
    if any([crossing(line) is not None for line in lines]):
        raise Crossed("a piece crosses itself in its size")
    told = lay([oblong(line, room) for line in lines], width)
    return (told[0], [moved_to(line, at, room) for line, at in zip(lines, told[1])])


def check_wanted(book, wanted):
    if len(wanted) > MOST_OBLONGS:
        raise TooMany("at most 8 pieces are laid out")
    # All pieces are looked for ahead of the first corners, for NoSuch goes ahead of every BadSize.
    for one in wanted:
        book.spots(one[0])


def oblong(line, room):
    return (breadth_along(line, 0) + 2 * room, breadth_along(line, 1) + 2 * room)


def breadth_along(line, axis):
    return max([corner[axis] for corner in line]) - least_along(line, axis)


def least_along(line, axis):
    return min([corner[axis] for corner in line])


def moved_to(line, at, room):
    across = at[0] + room - least_along(line, 0)
    up = at[1] + room - least_along(line, 1)
    return [(corner[0] + across, corner[1] + up) for corner in line]
