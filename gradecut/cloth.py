"""Cloth: oblongs laid one after another, each as low and then as far to the left as it goes."""

from gradecut.errors import TooMany, TooWide

MOST_OBLONGS = 8


def lay(oblongs, width):
    if len(oblongs) > MOST_OBLONGS:
        raise TooMany("at most 8 oblongs are laid")
    if any([oblong[0] > width for oblong in oblongs]):
        raise TooWide("an oblong is wider than the cloth")
    laid = []
    for oblong in oblongs:
        laid.append(lowest_box(oblong, width, laid))
    length = max([top(box) for box in laid], default=0)
    return (length, [(box[0], box[1]) for box in laid])


def lowest_box(oblong, width, laid):
    # What can go neither lower nor further left lies at 0 or against a box laid before it, so no other place is tried.
    # On the highest top nothing is in the way, so there is always one that is free.
    free = []
    for y in [0] + [top(box) for box in laid]:
        for x in [0] + [right(box) for box in laid]:
            tried = (x, y, oblong[0], oblong[1])
            if right(tried) <= width and is_free(tried, laid):
                free.append(tried)
    return min(free, key=lambda box: (box[1], box[0]))


def is_free(tried, laid):
    return not any([overlap(tried, box) for box in laid])


def overlap(one, two):
    beside = right(one) <= two[0] or right(two) <= one[0]
    above = top(one) <= two[1] or top(two) <= one[1]
    return not beside and not above


def right(box):
    return box[0] + box[2]


def top(box):
    return box[1] + box[3]
