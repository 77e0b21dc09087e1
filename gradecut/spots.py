"""Spots (x, y, gx, gy, lx, ly): a place in the middle size, and its moves for each step outward."""

from gradecut.errors import BadSize

LEAST = -6
MOST = 6


def place(spot, size):
    check_size(size)
    if size < 0:
        return moved(spot, spot[4], spot[5], -size)
    return moved(spot, spot[2], spot[3], size)


def check_size(size):
    # The size stays out of the words: Python refuses to write very great numbers as text.
    if size < LEAST or size > MOST:
        raise BadSize("a size runs from -6 to 6")


def moved(spot, across, up, steps):
    return (spot[0] + steps * across, spot[1] + steps * up)
