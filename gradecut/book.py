"""The book: the pieces of a pattern, the seams between their sides, and the size at hand."""

from gradecut.errors import BadMove, BadPiece, BadSeam, BadSize, Full, NoSuch
from gradecut.spots import check_size, place

MOST_PIECES = 10
LEAST_CORNERS = 3
MOST_CORNERS = 24
MOST_MARKS = 4
FARTHEST = 20000
LONGEST_MOVE = 200
MOST_SEAMS = 30
MOST_EASE = 400
MOST_PAIRS = 4


class Book:
    def __init__(self):
        self.size = 0
        # By piece: the list of its corners' spots, and for each side the list of its marks' spots.
        self.pieces = []
        self.side_marks = []
        # Tuples (first, second, turned, ease, pairs), the pairs as a tuple too.
        self.seams = []

    def add_piece(self, corners, marks=None):
        if len(self.pieces) >= MOST_PIECES:
            raise Full("a book has at most 10 pieces")
        by_side = [[] for corner in corners] if marks is None else [list(spots) for spots in marks]
        check_piece(corners, by_side)
        self.pieces.append(list(corners))
        self.side_marks.append(by_side)
        return len(self.pieces) - 1

    def add_seam(self, first, second, turned=False, ease=0, pairs=None):
        if len(self.seams) >= MOST_SEAMS:
            raise Full("a book has at most 30 seams")
        own_pairs = () if pairs is None else tuple(pairs)
        self.check_pairs(first, second, own_pairs)
        check_seam(first, second, ease, own_pairs)
        self.seams.append((first, second, turned, ease, own_pairs))
        return len(self.seams) - 1

    def check_pairs(self, first, second, pairs):
        first_marks = self.mark_spots(first[0], first[1])
        second_marks = self.mark_spots(second[0], second[1])
        for pair in pairs:
            check_there(pair[0], first_marks)
            check_there(pair[1], second_marks)

    def set_moves(self, piece, corner, greater, lesser):
        check_there(piece, self.pieces)
        spots = self.pieces[piece]
        check_there(corner, spots)
        moves = (greater[0], greater[1], lesser[0], lesser[1])
        if not all_within(moves, LONGEST_MOVE):
            raise BadMove("a move runs from -200 to 200")
        spots[corner] = spots[corner][:2] + moves

    def let_out(self, steps):
        return self.change_size(steps, steps)

    def take_in(self, steps):
        return self.change_size(steps, -steps)

    def change_size(self, steps, change):
        if steps < 0:
            raise BadSize("steps run from 0 on")
        check_size(self.size + change)
        self.size = self.size + change
        return self.size

    def piece_count(self):
        return len(self.pieces)

    def seam_count(self):
        return len(self.seams)

    def spots(self, piece):
        check_there(piece, self.pieces)
        return list(self.pieces[piece])

    def mark_spots(self, piece, side):
        check_there(piece, self.side_marks)
        check_there(side, self.side_marks[piece])
        return list(self.side_marks[piece][side])

    def seam(self, number):
        check_there(number, self.seams)
        kept = self.seams[number]
        return kept[:4] + (list(kept[4]),)

    def corners(self, piece, size=None):
        return self.places(self.spots(piece), size)

    def marks(self, piece, side, size=None):
        return self.places(self.mark_spots(piece, side), size)

    def places(self, spots, size):
        meant = self.size if size is None else size
        # Asked here as well, for a side without marks has no spot that would refuse the size.
        check_size(meant)
        return [place(spot, meant) for spot in spots]


def check_there(number, those):
    # Python would count a number below 0 from the end.
    if number < 0 or number >= len(those):
        raise NoSuch("none has that number")


def check_piece(corners, by_side):
    if len(corners) < LEAST_CORNERS or len(corners) > MOST_CORNERS:
        raise BadPiece("a piece has 3 to 24 corners")
    if len(by_side) != len(corners):
        raise BadPiece("each side has a list of marks of its own")
    if any([len(spots) > MOST_MARKS for spots in by_side]):
        raise BadPiece("a side has at most 4 marks")
    if not all([spots_fit(spots) for spots in [corners] + by_side]):
        raise BadPiece("a place runs from -20000 to 20000, a move from -200 to 200")


def spots_fit(spots):
    return all([all_within(spot[:2], FARTHEST) and all_within(spot[2:], LONGEST_MOVE) for spot in spots])


def all_within(numbers, bound):
    return all([abs(number) <= bound for number in numbers])


def check_seam(first, second, ease, pairs):
    if first == second:
        raise BadSeam("a side is not sewn to itself")
    if ease < 0 or ease > MOST_EASE:
        raise BadSeam("an ease runs from 0 to 400")
    if len(pairs) > MOST_PAIRS:
        raise BadSeam("a seam has at most 4 pairs")
