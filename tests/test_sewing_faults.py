import random
import unittest

from book_case import SIZES, BookCase, grown, still
from gradecut.book import Book
from gradecut.crossing import crossing
from gradecut.sewing import first_crossing, first_fault, first_parted, seam_meets

OBLONG = still((0, 0), (100, 0), (100, 300), (0, 300))
BOW = still((0, 0), (10, 10), (10, 0), (0, 10))


def with_moves(corners, corner, greater, lesser):
    moved = list(corners)
    moved[corner] = moved[corner][:2] + greater + lesser
    return moved


# Corner 2 comes down on the side from corner 0 to corner 1 in size 3, in size -2, and in both.
CROSSED_FROM_THREE = with_moves(OBLONG, 2, (-10, -100), (0, 0))
CROSSED_FROM_MINUS_TWO = with_moves(OBLONG, 2, (0, 0), (-10, -150))
CROSSED_IN_BOTH = with_moves(OBLONG, 2, (-10, -100), (-10, -150))


def book_of(*pieces):
    book = Book()
    for corners in pieces:
        book.add_piece(corners)
    return book


def expected_crossing(book):
    for size in SIZES:
        for piece in range(book.piece_count()):
            sides = crossing([grown(spot, size) for spot in book.spots(piece)])
            if sides is not None:
                return (size, piece) + sides
    return None


class FirstCrossingTest(BookCase):
    def check(self, book, answer):
        told = self.ask_in_any_size(first_crossing, book)
        self.assertEqual(told, answer)
        self.assertEqual(told, expected_crossing(book))
        if told is not None:
            self.assertEqual([type(told)] + [type(one) for one in told], [tuple, int, int, int, int])

    def test_nothing_crosses(self):
        self.check(Book(), None)
        self.check(book_of(OBLONG, still((0, 0), (5, 0), (0, 5))), None)
        self.check(book_of(with_moves(OBLONG, 2, (200, 200), (-3, -40))), None)

    def test_crossed_in_all_sizes(self):
        self.check(book_of(BOW), (-6, 0, 0, 2))
        self.check(book_of(OBLONG, OBLONG, BOW), (-6, 2, 0, 2))

    def test_greater_sizes_alone(self):
        self.check(book_of(CROSSED_FROM_THREE), (3, 0, 0, 1))

    def test_the_least_of_the_lesser_sizes_goes_first(self):
        self.check(book_of(CROSSED_FROM_MINUS_TWO), (-6, 0, 0, 2))
        self.check(book_of(CROSSED_IN_BOTH), (-6, 0, 0, 2))

    def test_one_lesser_size_alone(self):
        # Corner 2 lies on the side from corner 0 to corner 1 in size -2 alone.
        spots = [(0, 0, 0, 0, 0, 0), (100, 0, 0, 0, 0, 0), (60, 200, 0, 0, -5, -100), (0, 300, 0, 0, 0, -150)]
        book = book_of(OBLONG, spots)
        self.assertEqual(first_crossing(book), expected_crossing(book))
        self.assertEqual(first_crossing(book)[:2], (-2, 1))

    def test_the_middle_size(self):
        # Corner 2 leaves the line of side 0 both ways.
        spots = [(0, 0, 0, 0, 0, 0), (100, 0, 0, 0, 0, 0), (50, 0, 0, 9, 0, 9), (0, 300, 0, 0, 0, 0)]
        self.check(book_of(spots), (0, 0, 0, 1))

    def test_the_least_size_goes_ahead_of_the_least_piece(self):
        self.check(book_of(CROSSED_FROM_THREE, CROSSED_FROM_MINUS_TWO), (-6, 1, 0, 2))
        self.check(book_of(OBLONG, CROSSED_FROM_THREE, with_moves(OBLONG, 2, (-10, -150), (0, 0))), (2, 2, 0, 1))

    def test_the_least_piece_goes_ahead_of_the_least_sides(self):
        late = still((0, 0), (100, 0), (100, 100), (50, 100), (80, 100), (0, 90))
        self.check(book_of(OBLONG, late, BOW), (-6, 1, 2, 3))
        self.check(book_of(OBLONG, BOW, late), (-6, 1, 0, 2))

    def test_the_least_sides(self):
        star = still((0, 0), (100, 60), (-20, 60), (80, 0), (40, 100))
        self.check(book_of(star), (-6, 0, 0, 2))

    def test_a_side_that_shrinks_to_one_place(self):
        corners = still((0, 0), (100, 0), (100, 60), (80, 60), (0, 300))
        self.check(book_of(OBLONG, with_moves(OBLONG, 1, (-20, 0), (0, 0))), (5, 1, 0, 0))
        self.check(book_of(OBLONG, with_moves(OBLONG, 0, (0, 0), (20, 0))), (-6, 1, 1, 3))
        # The two sides beside the one that has shrunk have its place in common, and the lesser of them goes first.
        self.check(book_of(with_moves(corners, 3, (5, 0), (-5, 0))), (4, 0, 1, 3))
        self.check(book_of(OBLONG, with_moves(corners, 2, (-10, 0), (0, 0))), (2, 1, 1, 3))
        self.check(book_of(with_moves(OBLONG, 3, (0, -60), (0, 0))), (5, 0, 0, 2))

    def test_a_triangle_with_a_side_that_shrinks_to_one_place(self):
        corners = still((0, 0), (60, 0), (0, 60))
        self.check(book_of(with_moves(corners, 1, (-10, 0), (0, 0))), (6, 0, 0, 0))
        self.check(book_of(with_moves(corners, 2, (0, -10), (0, 0))), (6, 0, 0, 1))
        self.check(book_of(with_moves(corners, 2, (0, 0), (0, -10))), (-6, 0, 0, 1))

    def test_all_corners_at_one_place(self):
        self.check(book_of(still((5, 5), (5, 5), (5, 5))), (-6, 0, 0, 0))

    def test_setting_moves_anew(self):
        book = book_of(OBLONG, OBLONG)
        self.check(book, None)
        book.set_moves(1, 2, (-10, -100), (0, 0))
        self.check(book, (3, 1, 0, 1))

    def test_many_books(self):
        source = random.Random(41)
        told = []
        for trial in range(60):
            pieces = []
            for piece in range(3):
                pieces.append(list(OBLONG))
                for corner in range(4):
                    moves = tuple(source.choice((0, 0, 5, -5, 30, -30)) for number in range(4))
                    pieces[-1][corner] = pieces[-1][corner][:2] + moves
            book = book_of(*pieces)
            told.append(first_crossing(book))
            self.assertEqual(told[-1], expected_crossing(book))
        self.assertGreater(len(set(told)), 8)


def sewn(*tops):
    """For each top a piece that does not cross itself, whose side 0 runs up from (0, 0) to it, with three marks."""
    book = Book()
    for top in tops:
        quarters = [tuple(number * k // 4 for number in top) for k in (1, 2, 3)]
        book.add_piece([(0, 0, 0, 0, 0, 0), top, (3000, 2000, 0, 0, 0, 0)], [quarters, [], []])
    return book


def up(y, greater=0, lesser=0):
    return (0, y, 0, greater, 0, lesser)


# Each with an own corner 1 of side 0; the marks stand at a quarter, a half and three quarters in all sizes.
PLAIN = up(400, 8, -8)
GREATER = up(400, 12, -8)
LESSER = up(400, 8, -12)
SHORTER = up(380, 8, -8)


class FirstFaultTest(BookCase):
    def check(self, book, answer):
        told = self.ask_in_any_size(first_fault, book)
        self.assertEqual(told, answer)
        if told is not None:
            self.assertEqual([type(told)] + [type(one) for one in told], [tuple, str] + [int] * (len(answer) - 1))

    def test_no_fault(self):
        self.check(Book(), None)
        self.check(book_of(OBLONG), None)
        book = sewn(PLAIN, PLAIN, SHORTER)
        self.check(book, None)
        book.add_seam((0, 0), (1, 0), pairs=[(0, 0), (2, 2)])
        book.add_seam((1, 0), (2, 0), ease=20)
        book.add_seam((0, 0), (1, 0), True, pairs=[(0, 2), (1, 1), (2, 0)])
        self.check(book, None)

    def test_crossed_in_any_size_goes_ahead_of_every_seam(self):
        book = sewn(PLAIN, LESSER)
        book.add_seam((0, 0), (1, 0))
        book.add_seam((0, 0), (1, 0), pairs=[(0, 2)])
        self.check(book, ("apart", -6, 0))
        book.add_piece(with_moves(OBLONG, 2, (-10, -50), (0, 0)))
        self.check(book, ("crosses", 6, 2, 0, 1))
        book.add_piece(CROSSED_FROM_THREE)
        self.check(book, ("crosses", 3, 3, 0, 1))
        book.add_piece(BOW)
        self.check(book, ("crosses", -6, 4, 0, 2))

    def test_crossed_ahead_of_marks(self):
        book = sewn(PLAIN, PLAIN)
        book.add_seam((0, 0), (1, 0), pairs=[(0, 2)])
        self.check(book, ("marks", -6, 0, 0))
        book.add_piece(CROSSED_FROM_THREE)
        self.check(book, ("crosses", 3, 2, 0, 1))

    def test_apart_in_all_sizes(self):
        book = sewn(PLAIN, PLAIN, SHORTER)
        book.add_seam((0, 0), (1, 0))
        book.add_seam((1, 0), (2, 0))
        self.check(book, ("apart", -6, 1))

    def test_apart_in_greater_sizes_alone(self):
        book = sewn(PLAIN, GREATER)
        book.add_seam((0, 0), (1, 0))
        self.check(book, ("apart", 1, 0))

    def test_apart_in_the_greatest_size_alone(self):
        # The second side is 55 - 10 * size long, and in size 6 it has turned about and is 5 long.
        book = sewn(up(155, -10, 10), up(55, -10, 10))
        book.add_seam((0, 0), (1, 0), ease=100)
        self.check(book, ("apart", 6, 0))

    def test_an_ease_that_is_not_met(self):
        book = sewn(PLAIN, PLAIN, SHORTER)
        book.add_seam((0, 0), (1, 0), ease=0)
        book.add_seam((1, 0), (2, 0), ease=20)
        book.add_seam((2, 0), (1, 0), ease=20)
        self.check(book, ("apart", -6, 2))
        book = sewn(PLAIN, PLAIN)
        book.add_seam((0, 0), (1, 0), ease=1)
        self.check(book, ("apart", -6, 0))

    def test_apart_goes_ahead_of_marks_in_one_size_and_seam(self):
        book = sewn(PLAIN, SHORTER)
        book.add_seam((0, 0), (1, 0), pairs=[(0, 2)])
        self.check(book, ("apart", -6, 0))
        book = sewn(PLAIN, GREATER)
        book.add_seam((0, 0), (1, 0), pairs=[(0, 0), (1, 2)])
        self.check(book, ("marks", -6, 0, 1))

    def test_marks_of_a_lesser_seam_go_ahead_of_a_greater_seam_apart(self):
        book = sewn(PLAIN, PLAIN, SHORTER)
        book.add_seam((0, 0), (1, 0), pairs=[(0, 0), (1, 1), (2, 1)])
        book.add_seam((0, 0), (2, 0))
        self.check(book, ("marks", -6, 0, 2))

    def test_the_least_size_goes_ahead_of_the_least_seam(self):
        book = sewn(PLAIN, GREATER, LESSER)
        book.add_seam((0, 0), (1, 0))
        self.check(book, ("apart", 1, 0))
        book.add_seam((0, 0), (2, 0))
        self.check(book, ("apart", -6, 1))

    def test_marks_in_a_lesser_size_go_ahead_of_a_seam_apart_in_a_greater(self):
        book = sewn(PLAIN, GREATER)
        book.add_seam((0, 0), (1, 0))
        book.add_seam((0, 0), (0, 1), ease=0)
        self.assertEqual(first_fault(book), ("apart", -6, 1))
        book = sewn(PLAIN, GREATER, PLAIN)
        book.add_seam((0, 0), (1, 0))
        book.add_seam((0, 0), (2, 0), pairs=[(2, 2), (1, 0)])
        self.check(book, ("marks", -6, 1, 1))

    def test_marks_that_part_in_greater_sizes_alone(self):
        book = Book()
        for moves in (2, 3):
            corners = [(0, 0, 0, 0, 0, 0), up(400, 8, -8), (3000, 2000, 0, 0, 0, 0)]
            book.add_piece(corners, [[up(200, 4, -4), up(100, moves, -2)], [], []])
        book.add_seam((0, 0), (1, 0), pairs=[(0, 0), (1, 1)])
        self.check(book, ("marks", 1, 0, 1))
        book.set_moves(0, 1, (0, 9), (0, -8))
        self.check(book, ("apart", 1, 0))

    def test_the_least_pair(self):
        book = sewn(PLAIN, PLAIN)
        book.add_seam((0, 0), (1, 0), pairs=[(0, 0), (1, 2), (2, 1), (1, 1)])
        self.check(book, ("marks", -6, 0, 1))

    def test_turned_marks(self):
        book = sewn(PLAIN, PLAIN)
        book.add_seam((0, 0), (1, 0), True, pairs=[(0, 2), (1, 1), (2, 2)])
        self.check(book, ("marks", -6, 0, 2))

    def test_a_side_without_length_crosses_ahead_of_its_marks(self):
        book = Book()
        corners = [(0, 0, 0, 0, 0, 0), (0, 300, 0, -50, 0, 0), (900, 90, 0, 0, 0, 0)]
        book.add_piece(corners, [[up(150, -25)], [], []])
        book.add_piece(corners, [[up(150, -25)], [], []])
        book.add_seam((0, 0), (1, 0), pairs=[(0, 0)])
        self.check(book, ("crosses", 6, 0, 0, 0))
        self.assertEqual(first_parted(book), (6, 0, 0))

    def test_many_books(self):
        source = random.Random(43)
        told = []
        for trial in range(80):
            tops = [up(400, source.choice((8, 8, 12)), source.choice((-8, -8, -8, -12))) for piece in range(4)]
            book = sewn(*tops)
            for seam in range(source.randrange(1, 4)):
                pairs = [(k, source.choice((k, k, k, 2 - k))) for k in range(source.randrange(4))]
                book.add_seam(*[(piece, 0) for piece in source.sample(range(4), 2)], pairs=pairs)
            told.append(first_fault(book))
            apart = [
                (size, seam, 0, "apart") for size in SIZES for seam in range(book.seam_count())
                if not seam_meets(book, seam, size)
            ]
            parted = [first_parted(book)[:2] + (1, "marks")] if first_parted(book) else []
            least = min(apart + parted, default=None)
            self.assertEqual(told[-1] and (told[-1][0],) + told[-1][1:3], least and (least[3],) + least[:2])
        self.assertGreater(told.count(None), 5)
        self.assertGreater(len(set(told)), 6)


if __name__ == "__main__":
    unittest.main()
