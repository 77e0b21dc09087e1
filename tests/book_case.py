"""What the tests of the book have in common."""

import unittest

GREAT = 10 ** 5000
MIDDLE = (7, -9, 3, -4, -5, 6)
TRIANGLE = [(0, 0, 1, 2, -3, -4), (1000, 0, 5, 6, -7, -8), (0, 900, 9, 10, -11, -12)]
TRIANGLE_MARKS = [
    [(300, 0, 1, 1, 1, 1), (600, 0, 2, 2, 2, 2)],
    [],
    [(0, 800, 3, 3, 3, 3), (0, 700, 4, 4, 4, 4), (0, 600, 5, 5, 5, 5), (0, 500, 6, 6, 6, 6)],
]


def ring(count):
    """So many spots, all of them different."""
    return [(10 * k, -k, k, -k, 2 * k, 3 - k) for k in range(count)]


def state(book):
    """All that a book tells of itself."""
    pieces = []
    for piece in range(book.piece_count()):
        spots = book.spots(piece)
        marks = [book.mark_spots(piece, side) for side in range(len(spots))]
        pieces.append((spots, marks, book.corners(piece)))
    return (book.size, pieces, [book.seam(number) for number in range(book.seam_count())])


class BookCase(unittest.TestCase):
    def check_refused(self, error, book, method, *handed, **named):
        before = state(book)
        with self.assertRaises(error) as taken:
            getattr(book, method)(*handed, **named)
        self.assertIs(type(taken.exception), error)
        self.assertEqual(state(book), before)
