"""Shares: where the foot of a place falls on the line from a start to an end, as a fraction."""

from gradecut.errors import NoLength
from gradecut.lengths import square


def share(start, end, at):
    whole = square(start, end)
    if whole == 0:
        raise NoLength("the start and the end are one place")
    across = (at[0] - start[0]) * (end[0] - start[0])
    up = (at[1] - start[1]) * (end[1] - start[1])
    return lowest_terms(across + up, whole)


def same_share(first, second, turned):
    # Both fractions are brought to the denominator first[1] * second[1].
    one = first[0] * second[1]
    two = second[0] * first[1]
    if turned:
        return one + two == first[1] * second[1]
    return one == two


def lowest_terms(part, whole):
    divisor = greatest_divisor(abs(part), whole)
    return (part // divisor, whole // divisor)


def greatest_divisor(one, two):
    while two != 0:
        rest = one % two
        one = two
        two = rest
    return one
