import math
import unittest
from decimal import Decimal, localcontext

from book_case import BAD_SIZES, GREAT, SIZES, TRIANGLE, BookCase, grown, ring, still
from gradecut.book import Book
from gradecut.errors import BadSize, NoSuch
from gradecut.sewing import seam_apart, seam_meets, side_square

# Lengths 5, 4 and 3 in the middle size; side 1 is shorter by 1 for each step to a lesser size.
RIGHT_ANGLED = [(0, 3, 0, 0, 0, 0), (4, 0, 2, 0, -1, 0), (0, 0, 0, -1, 0, 0)]
ABSENT_SIDES = (
    (-1, 0), (-2, 0), (2, 0), (3, 0), (GREAT, 0), (-GREAT, 0),
    (0, -1), (0, -3), (0, 3), (0, 4), (0, GREAT), (0, -GREAT), (1, 5), (1, -5), (-1, -1), (2, 9),
)


def length(book, side, size):
    """A side's length in a size, told by the root of its square with many figures."""
    spots = book.spots(side[0])
    start, end = grown(spots[side[1]], size), grown((spots + spots[:1])[side[1] + 1], size)
    with localcontext() as context:
        context.prec = 120
        return Decimal((end[0] - start[0]) ** 2 + (end[1] - start[1]) ** 2).sqrt()


def gap(book, number, size):
    first, second = book.seam(number)[:2]
    with localcontext() as context:
        context.prec = 120
        # Rounded far behind the point, so that a gap that is whole is told as whole.
        return round(length(book, first, size) - length(book, second, size), 60)


def expected_apart(book, number, size):
    apart = gap(book, number, size)
    longer = 0 if apart == 0 else 1 if apart > 0 else 2
    return (longer, math.floor(abs(apart)), math.floor(abs(apart)) + 1)


def book_of_many():
    book = Book()
    book.add_piece(TRIANGLE)
    book.add_piece(RIGHT_ANGLED)
    book.add_piece([(-20000, -20000, -200, -200, 200, 200), (20000, 20000, 200, 200, -200, -200), (0, 1, 0, 0, 0, 0)])
    book.add_piece(ring(24))
    sides = [(0, 0), (0, 1), (0, 2), (1, 0), (1, 1), (1, 2), (2, 0), (2, 2), (3, 0), (3, 23)]
    for k, first in enumerate(sides):
        book.add_seam(first, sides[k - 1], turned=k % 2 == 0, ease=k % 3)
        book.add_seam(first, sides[k - 3], ease=k)
    return book


class SideSquareTest(BookCase):
    def setUp(self):
        self.book = Book()
        self.book.add_piece(TRIANGLE)
        self.book.add_piece(ring(5))

    def check(self, piece, side, size, answer):
        told = self.ask(side_square, self.book, piece, side, size)
        self.assertEqual(told, answer)
        self.assertIs(type(told), int)

    def test_every_side_in_every_size(self):
        for piece in range(2):
            spots = self.book.spots(piece)
            for side, spot in enumerate(spots):
                for size in SIZES:
                    start, end = grown(spot, size), grown((spots + spots[:1])[side + 1], size)
                    self.check(piece, side, size, (end[0] - start[0]) ** 2 + (end[1] - start[1]) ** 2)

    def test_by_hand(self):
        self.check(0, 0, 0, 1000000)
        self.check(0, 1, 0, 1810000)
        self.check(0, 2, 0, 810000)
        self.check(0, 0, 1, 1004 ** 2 + 4 ** 2)
        self.check(0, 2, 2, 16 ** 2 + 916 ** 2)
        self.check(0, 0, -3, 988 ** 2 + 12 ** 2)

    def test_the_size_at_hand(self):
        for steps in (0, 2, 4):
            size = self.book.let_out(steps)
            answer = side_square(self.book, 0, 1, size)
            self.check(0, 1, None, answer)
            self.assertEqual(side_square(self.book, 0, 1), answer)
        self.book.take_in(12)
        self.assertEqual(side_square(self.book, 0, 0), 976 ** 2 + 24 ** 2)
        self.assertEqual(side_square(self.book, 0, 0, 0), 1000000)
        self.assertEqual(side_square(self.book, piece=0, side=0, size=None), 976 ** 2 + 24 ** 2)
        self.assertEqual(side_square(book=self.book, piece=0, side=0, size=1), 1004 ** 2 + 4 ** 2)

    def test_a_side_without_length(self):
        number = self.book.add_piece(still((0, 0), (10, 0), (10, 0), (0, 10)))
        self.check(number, 1, 3, 0)

    def test_the_farthest_places(self):
        number = self.book.add_piece(
            [(-20000, -20000, -200, -200, 0, 0), (20000, 20000, 200, 200, 0, 0), (0, 1, 0, 0, 0, 0)]
        )
        self.check(number, 0, 6, 2 * 42400 ** 2)
        self.check(number, 0, -6, 2 * 40000 ** 2)

    def test_what_is_not_there(self):
        for piece, side in ABSENT_SIDES:
            for size in (None, 0, 3) + BAD_SIZES:
                self.check_asked_refused(NoSuch, side_square, self.book, piece, side, size)

    def test_sizes_beyond(self):
        for size in BAD_SIZES:
            self.check_asked_refused(BadSize, side_square, self.book, 0, 2, size)
            self.check_asked_refused(BadSize, side_square, self.book, 1, 0, size=size)


class SeamApartTest(BookCase):
    def check(self, book, number, size, answer):
        told = self.ask(seam_apart, book, number, size)
        self.assertEqual(told, answer)
        self.assertEqual([type(told)] + [type(one) for one in told], [tuple, int, int, int])

    def test_by_hand(self):
        book = Book()
        book.add_piece(RIGHT_ANGLED)
        book.add_seam((0, 0), (0, 2))
        book.add_seam((0, 2), (0, 0), ease=2)
        book.add_seam((0, 1), (0, 2), True, 400)
        book.add_seam((0, 2), (0, 1), True, 1)
        self.check(book, 0, 0, (1, 2, 3))
        self.check(book, 1, 0, (2, 2, 3))
        self.check(book, 2, 0, (1, 1, 2))
        self.check(book, 3, 0, (2, 1, 2))
        self.check(book, 2, -1, (0, 0, 1))
        self.check(book, 2, -2, (2, 1, 2))
        # In size 1 side 1 runs from (6, 0) to (0, -1), the root of 37; side 2 is 4 long.
        self.check(book, 2, 1, (1, 2, 3))

    def test_every_seam_in_every_size(self):
        book = book_of_many()
        for number in range(book.seam_count()):
            for size in SIZES:
                self.check(book, number, size, expected_apart(book, number, size))

    def test_the_size_at_hand(self):
        book = Book()
        book.add_piece(RIGHT_ANGLED)
        book.add_seam((0, 1), (0, 2))
        self.check(book, 0, None, (1, 1, 2))
        book.take_in(1)
        self.check(book, 0, None, (0, 0, 1))
        self.assertEqual(seam_apart(book, 0), (0, 0, 1))
        self.assertEqual(seam_apart(book, seam=0, size=0), (1, 1, 2))
        book.take_in(1)
        self.assertEqual(seam_apart(book, 0), (2, 1, 2))


class SeamMeetsTest(BookCase):
    def check(self, book, number, size, answer):
        self.assertIs(self.ask(seam_meets, book, number, size), answer)

    def test_eases(self):
        book = Book()
        book.add_piece(RIGHT_ANGLED)
        eases = (0, 1, 2, 3, 400)
        for ease in eases:
            book.add_seam((0, 0), (0, 2), ease=ease)
        for number, ease in enumerate(eases):
            self.check(book, number, 0, ease == 2)

    def test_the_first_side_is_the_longer_one(self):
        book = Book()
        book.add_piece(RIGHT_ANGLED)
        book.add_seam((0, 2), (0, 0), ease=2)
        book.add_seam((0, 0), (0, 2), ease=2)
        book.add_seam((0, 2), (0, 0), True, 2)
        book.add_seam((0, 0), (0, 2), True, 2)
        self.assertEqual([seam_meets(book, number) for number in range(4)], [False, True, False, True])

    def test_lengths_that_are_no_whole_numbers(self):
        book = Book()
        # Lengths 2 * root 2, root 2, root 8, 4 and root 18.
        book.add_piece(still((0, 0), (2, 2), (3, 1), (5, 3), (5, -1), (2, -4)))
        book.add_seam((0, 0), (0, 2))
        book.add_seam((0, 0), (0, 1), ease=1)
        book.add_seam((0, 0), (0, 1), ease=2)
        book.add_seam((0, 4), (0, 0), ease=1)
        book.add_seam((0, 3), (0, 0), ease=1)
        self.assertEqual([seam_meets(book, number) for number in range(5)], [True, False, False, False, False])

    def test_roots_that_differ_by_a_whole_number_only_where_both_are_whole(self):
        book = Book()
        book.add_piece(still((0, 0), (15, 20), (15, 0), (11, 3)))
        # Lengths 25, 20 and 5.
        book.add_seam((0, 0), (0, 1), ease=5)
        book.add_seam((0, 0), (0, 2), ease=20)
        book.add_seam((0, 1), (0, 2), ease=15)
        self.assertEqual([seam_meets(book, number) for number in range(3)], [True, True, True])

    def test_a_side_without_length(self):
        book = Book()
        book.add_piece(still((0, 0), (7, 0), (7, 0), (0, 10)))
        book.add_seam((0, 0), (0, 1), ease=7)
        book.add_seam((0, 0), (0, 1), ease=6)
        book.add_seam((0, 1), (0, 0), ease=7)
        self.assertEqual([seam_meets(book, number) for number in range(3)], [True, False, False])

    def test_every_seam_in_every_size(self):
        book = book_of_many()
        told = []
        for number in range(book.seam_count()):
            for size in SIZES:
                answer = gap(book, number, size) == book.seam(number)[3]
                self.check(book, number, size, answer)
                told.append(answer)
        self.assertEqual(set(told), {True, False})

    def test_seams_that_meet_in_some_sizes_alone(self):
        book = Book()
        book.add_piece([(0, 0, 0, 0, 0, 0), (0, 500, 0, 3, 0, -5), (90, 90, 0, 0, 0, 0)])
        book.add_piece([(0, 0, 0, 0, 0, 0), (0, 500, 0, 2, 0, -5), (90, 90, 0, 0, 0, 0)])
        book.add_piece([(0, 0, 0, 0, 0, 0), (0, 497, 0, 3, 0, -4), (90, 90, 0, 0, 0, 0)])
        book.add_seam((0, 0), (1, 0))
        book.add_seam((0, 0), (2, 0), ease=3)
        book.add_seam((0, 0), (1, 0), ease=4)
        self.assertEqual([size for size in SIZES if seam_meets(book, 0, size)], list(range(-6, 1)))
        self.assertEqual([size for size in SIZES if seam_meets(book, 1, size)], list(range(0, 7)))
        self.assertEqual([size for size in SIZES if seam_meets(book, 2, size)], [4])

    def test_the_size_at_hand(self):
        book = Book()
        book.add_piece(RIGHT_ANGLED)
        book.add_seam((0, 1), (0, 2))
        self.check(book, 0, None, False)
        book.take_in(1)
        self.check(book, 0, None, True)
        self.assertIs(seam_meets(book, 0), True)
        self.assertIs(seam_meets(book, seam=0, size=0), False)
        self.assertIs(seam_meets(book=book, seam=0, size=None), True)

    def test_marks_have_no_bearing(self):
        book = Book()
        book.add_piece(still((0, 0), (0, 100), (90, 9)), [still((0, 10)), [], []])
        book.add_piece(still((0, 0), (0, 100), (90, 9)), [still((0, 90)), [], []])
        book.add_seam((0, 0), (1, 0), pairs=[(0, 0)])
        self.check(book, 0, 0, True)


class RefusalTest(BookCase):
    def setUp(self):
        self.book = Book()
        self.book.add_piece(TRIANGLE)
        self.book.add_seam((0, 0), (0, 1))
        self.book.add_seam((0, 1), (0, 2))

    def test_a_seam_that_is_not_there(self):
        for function in (seam_apart, seam_meets):
            for number in (-1, -2, 2, 3, GREAT, -GREAT):
                for size in (None, 0, -6) + BAD_SIZES:
                    self.check_asked_refused(NoSuch, function, self.book, number, size)
            self.check_asked_refused(NoSuch, function, Book(), 0)

    def test_sizes_beyond(self):
        for function in (seam_apart, seam_meets):
            for size in BAD_SIZES:
                self.check_asked_refused(BadSize, function, self.book, 1, size)
                self.check_asked_refused(BadSize, function, self.book, 0, size=size)


if __name__ == "__main__":
    unittest.main()
