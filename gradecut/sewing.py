"""Sewing: whether seams and their marks meet in each size, which corners come together, and a book's first faults."""

from gradecut.book import check_there
from gradecut.crossing import crossing, side_ends
from gradecut.errors import NoLength
from gradecut.lengths import compare, meets, square
from gradecut.shares import same_share, share
from gradecut.spots import LEAST, MOST


def side_square(book, piece, side, size=None):
    ends = side_places(book, (piece, side), size)
    return square(ends[0], ends[1])


def side_places(book, side, size):
    spots = book.spots(side[0])
    check_there(side[1], spots)
    # The size is looked at last, for NoSuch goes ahead of BadSize.
    return book.places(side_ends(spots, side[1]), size)


def seam_apart(book, seam, size=None):
    squares = seam_squares(book, seam, size)
    return compare(squares[0], squares[1])


def seam_meets(book, seam, size=None):
    squares = seam_squares(book, seam, size)
    return meets(squares[0], squares[1], book.seam(seam)[3])


def seam_squares(book, seam, size):
    return [side_square(book, side[0], side[1], size) for side in book.seam(seam)[:2]]


def first_parted(book):
    for size in range(LEAST, MOST + 1):
        for seam in range(book.seam_count()):
            pair = parted_pair(book, seam, size)
            if pair is not None:
                return (size, seam, pair)
    return None


def parted_pair(book, seam, size):
    told = book.seam(seam)
    for number, pair in enumerate(told[4]):
        if not marks_meet(book, told, pair, size):
            return number
    return None


def marks_meet(book, told, pair, size):
    try:
        one = mark_share(book, told[0], pair[0], size)
        two = mark_share(book, told[1], pair[1], size)
    except NoLength:
        return False
    return same_share(one, two, told[2])


def mark_share(book, side, mark, size):
    ends = side_places(book, side, size)
    return share(ends[0], ends[1], book.marks(side[0], side[1], size)[mark])


def first_crossing(book):
    for size in range(LEAST, MOST + 1):
        for piece in range(book.piece_count()):
            sides = crossing(book.corners(piece, size))
            if sides is not None:
                return (size, piece, sides[0], sides[1])
    return None


def first_fault(book):
    crossed = first_crossing(book)
    if crossed is not None:
        return ("crosses",) + crossed
    for size in range(LEAST, MOST + 1):
        for seam in range(book.seam_count()):
            if not seam_meets(book, seam, size):
                return ("apart", size, seam)
            pair = parted_pair(book, seam, size)
            if pair is not None:
                return ("marks", size, seam, pair)
    return None


def together(book, piece, corner):
    check_corner(book, (piece, corner))
    links = all_links(book)
    found = {(piece, corner): True}
    waiting = [(piece, corner)]
    while waiting:
        one = waiting.pop()
        for other in laid_on(one, links):
            if other not in found:
                found[other] = True
                waiting.append(other)
    return sorted(found.keys())


def check_corner(book, corner):
    check_there(corner[1], book.spots(corner[0]))


def all_links(book):
    links = []
    for seam in range(book.seam_count()):
        links.extend(seam_links(book, seam))
    return links


def seam_links(book, seam):
    told = book.seam(seam)
    one = side_corners(book, told[0])
    two = side_corners(book, told[1])
    if told[2]:
        return [(one[0], two[1]), (one[1], two[0])]
    return [(one[0], two[0]), (one[1], two[1])]


def side_corners(book, side):
    corners = [(side[0], corner) for corner in range(len(book.spots(side[0])))]
    return side_ends(corners, side[1])


def laid_on(corner, links):
    ahead = [link[1] for link in links if link[0] == corner]
    return ahead + [link[0] for link in links if link[1] == corner]
