"""Lengths, told by their squares, so that whole numbers compare them exactly."""


def square(one, two):
    return (two[0] - one[0]) ** 2 + (two[1] - one[1]) ** 2


def compare(one, two):
    if one == two:
        return (0, 0, 1)
    low = whole_gap(max(one, two), min(one, two))
    longer = 1 if one > two else 2
    return (longer, low, low + 1)


def meets(one, two, ease):
    # An ease below 0 makes the second length the longer one.
    if ease < 0:
        return meets(two, one, -ease)
    # length one = length two + ease, squared twice, so that no root is left;
    # the rest is 2 * ease * length two, hence never below 0.
    rest = one - two - ease * ease
    return rest >= 0 and rest * rest == 4 * ease * ease * two


def whole_gap(longer, shorter):
    # Each whole root is short of its length by less than 1,
    # so their gap is the answer or one too many.
    gap = whole_root(longer) - whole_root(shorter)
    if reaches(longer, shorter, gap):
        return gap
    return gap - 1


def reaches(longer, shorter, gap):
    # length shorter + gap <= length longer, squared twice, so that no root is left.
    rest = longer - shorter - gap * gap
    return rest >= 0 and rest * rest >= 4 * gap * gap * shorter


def whole_root(number):
    # Newton's steps from above fall until they are at the greatest root with root * root <= number.
    root = number
    nearer = (number + 1) // 2
    while nearer < root:
        root = nearer
        nearer = (root + number // root) // 2
    return root
