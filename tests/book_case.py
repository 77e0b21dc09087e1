"""What the tests of the book and of all that asks it have in common."""

import unittest

GREAT = 10 ** 5000
SIZES = range(-6, 7)
BAD_SIZES = (-7, 7, 8, -13, 100, GREAT, -GREAT)
MIDDLE = (7, -9, 3, -4, -5, 6)
TRIANGLE = [(0, 0, 1, 2, -3, -4), (1000, 0, 5, 6, -7, -8), (0, 900, 9, 10, -11, -12)]
TRIANGLE_MARKS = [
    [(300, 0, 1, 1, 1, 1), (600, 0, 2, 2, 2, 2)],
    [],
    [(0, 800, 3, 3, 3, 3), (0, 700, 4, 4, 4, 4), (0, 600, 5, 5, 5, 5), (0, 500, 6, 6, 6, 6)],
]


def ring(count):
    """So many spots, all of them different."""
    return [(10 * k, -k, k, -k, 2 * k, 3 - k) for k in range(count)]


def still(*places):
    """Spots that are at the same place in every size."""
    return [(x, y, 0, 0, 0, 0) for x, y in places]


def grown(spot, size):
    """The place of a spot in a size, reached step by step."""
    x, y, gx, gy, lx, ly = spot
    for step in range(abs(size)):
        x, y = (x + gx, y + gy) if size > 0 else (x + lx, y + ly)
    return (x, y)


def state(book):
    """All that a book tells of itself."""
    pieces = []
    for piece in range(book.piece_count()):
        spots = book.spots(piece)
        marks = [book.mark_spots(piece, side) for side in range(len(spots))]
        pieces.append((spots, marks, book.corners(piece)))
    return (book.size, pieces, [book.seam(number) for number in range(book.seam_count())])


class BookCase(unittest.TestCase):
    def check_refused(self, error, book, method, *handed, **named):
        """A method of the book is refused, and the book stays as it was."""
        self.check_call_refused(error, book, getattr(book, method), handed, named)

    def check_asked_refused(self, error, function, book, *handed, **named):
        """A function that asks the book is refused, and the book stays as it was."""
        self.check_call_refused(error, book, function, (book,) + handed, named)

    def check_call_refused(self, error, book, function, handed, named):
        before = state(book)
        with self.assertRaises(error) as taken:
            function(*handed, **named)
        self.assertIs(type(taken.exception), error)
        self.assertEqual(state(book), before)

    def ask(self, function, book, *handed, **named):
        """What a function tells of a book, which stays as it was and tells the same again."""
        before = state(book)
        told = function(book, *handed, **named)
        self.assertEqual(state(book), before)
        self.assertEqual(function(book, *handed, **named), told)
        return told

    def ask_in_any_size(self, function, book, *handed, **named):
        """The same, where the size at hand has no bearing on it."""
        told = self.ask(function, book, *handed, **named)
        for change, steps in ((book.let_out, 6), (book.take_in, 12), (book.let_out, 6)):
            change(steps)
            self.assertEqual(self.ask(function, book, *handed, **named), told)
        return told
