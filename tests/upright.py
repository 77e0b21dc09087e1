"""Pieces with upright sides, and the least changes of a book found by trying every way."""

import itertools

from gradecut.book import Book


def post(height, low=(0, 0), high=(0, 0), down=False, at=(0, 0), across=(0, 0)):
    """A piece whose side 0 is upright, each end with its (gy, ly): corner 0 is the lower one, but when it runs down."""
    x, y = at
    lower = (x, y, across[0], low[0], across[1], low[1])
    upper = (x, y + height, across[0], high[0], across[1], high[1])
    tip = (x + 3000, y + 60, 100, -90, 80, 70)
    return [upper, lower, tip] if down else [lower, upper, tip]


def book_of(*pieces):
    book = Book()
    for corners in pieces:
        book.add_piece(corners)
    return book


def ends(book, side):
    piece, start = side
    return [(piece, start), (piece, (start + 1) % len(book.spots(piece)))]


def told_corners(book, seams):
    found = set()
    for seam in seams:
        for side in book.seam(seam)[:2]:
            found |= set(ends(book, side))
    return sorted(found)


def spread(free, total, olds):
    """Every list of new numbers for the free corners whose changes have this sum."""
    if not free:
        return [{}] if total == 0 else []
    ways = []
    for change in range(-total, total + 1):
        new = olds[free[0]] + change
        if -9 <= new <= 9:
            for way in spread(free[1:], total - abs(change), olds):
                ways.append({free[0]: new, **way})
    return ways


def lengths_meet(book, seam, numbers, steps):
    first, second, turned, ease, pairs = book.seam(seam)
    found = []
    for side in (first, second):
        one, two = ends(book, side)
        ys = [book.spots(piece)[corner][1] + steps * numbers[piece, corner] for piece, corner in (one, two)]
        found.append(abs(ys[0] - ys[1]))
    return found[0] == found[1] + ease


def good_ways(book, seams, kept, move):
    """All ways with the least sum for gy (move 3) or ly (move 5), none where none is good."""
    corners = told_corners(book, seams)
    olds = {(piece, corner): book.spots(piece)[corner][move] for piece, corner in corners}
    free = [corner for corner in corners if corner not in kept]
    for total in range(18 * len(free) + 1):
        good = []
        for way in spread(free, total, olds):
            numbers = {**olds, **way}
            if all(lengths_meet(book, seam, numbers, steps) for seam in seams for steps in range(7)):
                good.append(numbers)
        if good:
            return good
    return []


def expected_changes(book, told, kept=()):
    seams = list(dict.fromkeys(told))
    for count in range(1, len(seams) + 1):
        good = [good_ways(book, seams[:count], kept, move) for move in (3, 5)]
        if [] in good:
            return (seams[count - 1], [])
    if seams == []:
        return (None, [])
    corners = told_corners(book, seams)
    ways = itertools.product(*good)
    first = min([(greater[corner], lesser[corner]) for corner in corners] for greater, lesser in ways)
    changes = []
    for (piece, corner), news in zip(corners, first):
        spot = book.spots(piece)[corner]
        if (spot[3], spot[5]) != news:
            changes.append((piece, corner) + news)
    return (None, changes)
