import random
import unittest
from fractions import Fraction

from book_case import SIZES, BookCase, grown, ring, still
from gradecut.book import Book
from gradecut.sewing import first_parted


def column(top, marks, tip=(900, 50, 0, 0, 0, 0)):
    """A piece whose side 0 runs from (0, 0) to the top, with these marks on it."""
    return ([(0, 0, 0, 0, 0, 0), top, tip], [marks, [], []])


def hung(bottom_of, marks):
    """The same, but with side 0 running down."""
    corners, by_side = column(bottom_of, marks)
    return ([corners[1], corners[0], corners[2]], by_side)


def book_of(*pieces):
    book = Book()
    for corners, marks in pieces:
        book.add_piece(corners, marks)
    return book


def up(y, greater=0, lesser=0):
    return (0, y, 0, greater, 0, lesser)


def fraction(book, side, mark, size):
    spots = book.spots(side[0])
    (ax, ay), (bx, by) = grown(spots[side[1]], size), grown((spots + spots[:1])[side[1] + 1], size)
    px, py = grown(book.mark_spots(*side)[mark], size)
    if (ax, ay) == (bx, by):
        return None
    return Fraction((px - ax) * (bx - ax) + (py - ay) * (by - ay), (bx - ax) ** 2 + (by - ay) ** 2)


def parted(book, number, pair, size):
    first, second, turned, ease, pairs = book.seam(number)
    one = fraction(book, first, pairs[pair][0], size)
    two = fraction(book, second, pairs[pair][1], size)
    if one is None or two is None:
        return True
    return one != (1 - two if turned else two)


def expected(book):
    every = [
        (size, number, pair)
        for size in SIZES for number in range(book.seam_count()) for pair in range(len(book.seam(number)[4]))
        if parted(book, number, pair, size)
    ]
    return min(every, default=None)


class FirstPartedTest(BookCase):
    def check(self, book, answer):
        told = self.ask_in_any_size(first_parted, book)
        self.assertEqual(told, answer)
        self.assertEqual(told, expected(book))
        if told is not None:
            self.assertEqual([type(told)] + [type(one) for one in told], [tuple, int, int, int])

    def test_an_empty_book(self):
        self.check(Book(), None)

    def test_seams_without_pairs(self):
        book = book_of(column(up(100), [up(10)]), column(up(300), [up(99)]))
        self.check(book, None)
        book.add_seam((0, 0), (1, 0))
        book.add_seam((0, 1), (1, 2), True, 7)
        self.check(book, None)

    def test_marks_that_meet_in_all_sizes(self):
        book = book_of(column(up(100, 10, -10), [up(30, 3, -3)]), column(up(200, 20, -30), [up(60, 6, -9)]))
        book.add_seam((0, 0), (1, 0), ease=5, pairs=[(0, 0)])
        book.add_seam((1, 0), (0, 0), pairs=[(0, 0), (0, 0)])
        self.check(book, None)

    def test_lesser_sizes_alone(self):
        book = book_of(column(up(100, 10, -10), [up(30, 3, -3)]), column(up(200, 20, -30), [up(60, 6, -8)]))
        book.add_seam((0, 0), (1, 0), pairs=[(0, 0)])
        self.check(book, (-6, 0, 0))

    def test_greater_sizes_alone(self):
        book = book_of(column(up(100, 10, -10), [up(30, 3, -3)]), column(up(200, 20, -30), [up(60, 7, -9)]))
        book.add_seam((0, 0), (1, 0), pairs=[(0, 0)])
        self.check(book, (1, 0, 0))

    def test_a_greater_size_in_which_a_side_has_no_length(self):
        book = book_of(column(up(100, -20, 20), [up(50, -10, 10)]), column(up(200), [up(100)]))
        book.add_seam((0, 0), (1, 0), pairs=[(0, 0)])
        self.check(book, (5, 0, 0))

    def test_the_middle_size_in_which_a_side_has_no_length(self):
        shrunk = column(up(0, 5, 5), [up(0, 2, 2)])
        book = book_of(shrunk, column(up(200), [up(80)]))
        book.add_seam((0, 0), (1, 0), pairs=[(0, 0)])
        self.check(book, (0, 0, 0))
        book = book_of(shrunk, column(up(200), [up(80)]))
        book.add_seam((1, 0), (0, 0), pairs=[(0, 0)])
        self.check(book, (0, 0, 0))

    def test_a_lesser_size_in_which_a_side_has_no_length(self):
        for turned in (False, True):
            book = book_of(column(up(30, 0, -10), [up(15, 0, -5)]), column(up(200), [up(100)]))
            book.add_seam((0, 0), (1, 0), turned, pairs=[(0, 0)])
            self.check(book, (-3, 0, 0))

    def test_both_sides_without_length(self):
        book = book_of(column(up(0), [up(0)]), column(up(0), [up(0)]))
        book.add_seam((0, 0), (1, 0))
        self.check(book, None)
        book.add_seam((0, 0), (1, 0), pairs=[(0, 0)])
        self.check(book, (-6, 1, 0))

    def test_the_middle_size_alone_is_not_enough(self):
        book = book_of(column(up(100), [up(30), up(31)]), column(up(200), [up(60, 0, 1), up(62, 1)]))
        book.add_seam((0, 0), (1, 0), pairs=[(1, 1)])
        self.check(book, (1, 0, 0))
        book.add_seam((0, 0), (1, 0), pairs=[(0, 0)])
        self.check(book, (-6, 1, 0))

    def test_marks_that_part_in_the_middle_size_too(self):
        book = book_of(column(up(100), [up(30)]), column(up(200), [up(61)]))
        book.add_seam((0, 0), (1, 0), pairs=[(0, 0)])
        self.check(book, (-6, 0, 0))

    def test_the_least_size_goes_ahead_of_the_least_seam(self):
        book = book_of(column(up(100), [up(30), up(50)]), column(up(200), [up(60, 1), up(100, 0, 1)]))
        book.add_seam((0, 0), (1, 0), pairs=[(0, 0)])
        self.check(book, (1, 0, 0))
        book.add_seam((0, 0), (1, 0), pairs=[(0, 0), (1, 1)])
        self.check(book, (-6, 1, 1))

    def test_the_least_seam_goes_ahead_of_the_least_pair(self):
        book = book_of(column(up(100), [up(30), up(50)]), column(up(200), [up(60), up(90)]))
        book.add_seam((0, 0), (1, 0))
        book.add_seam((0, 0), (1, 0), pairs=[(0, 0), (0, 0), (0, 0), (1, 1)])
        book.add_seam((0, 0), (1, 0), pairs=[(1, 1)])
        self.check(book, (-6, 1, 3))

    def test_the_least_pair(self):
        book = book_of(column(up(100), [up(30), up(50)]), column(up(200), [up(60), up(90)]))
        book.add_seam((0, 0), (1, 0), pairs=[(0, 0), (1, 0), (0, 1), (1, 1)])
        self.check(book, (-6, 0, 1))

    def test_each_mark_is_taken_of_its_own_side(self):
        book = book_of(column(up(100), [up(30), up(50)]), column(up(200), [up(100), up(60)]))
        book.add_seam((0, 0), (1, 0), pairs=[(0, 1), (1, 0)])
        self.check(book, None)

    def test_turned_seams(self):
        book = book_of(column(up(100), [up(30)]), column(up(200), [up(140)]), column(up(200), [up(60)]))
        book.add_seam((0, 0), (1, 0), turned=True, pairs=[(0, 0)])
        self.check(book, None)
        book.add_seam((0, 0), (2, 0), turned=False, pairs=[(0, 0)])
        self.check(book, None)
        book.add_seam((0, 0), (2, 0), turned=True, pairs=[(0, 0)])
        self.check(book, (-6, 2, 0))

    def test_sides_that_run_up_and_down(self):
        book = book_of(column(up(100, 10, -10), [up(30, 3, -3)]), hung(up(200, 20, -20), [up(60, 6, -6)]))
        book.add_seam((0, 0), (1, 0), turned=True, pairs=[(0, 0)])
        self.check(book, None)
        book.add_seam((0, 0), (1, 0), turned=False, pairs=[(0, 0)])
        self.check(book, (-6, 1, 0))

    def test_a_mark_in_the_middle_meets_both_ways(self):
        book = book_of(column(up(100), [up(50)]), column(up(30), [up(15)]))
        book.add_seam((0, 0), (1, 0), turned=True, pairs=[(0, 0)])
        book.add_seam((0, 0), (1, 0), turned=False, pairs=[(0, 0)])
        self.check(book, None)

    def test_marks_beside_and_beyond_their_sides(self):
        aside = (70, 30, -9, 0, 8, 0)
        beyond = up(-50), up(250)
        book = book_of(column(up(100), [aside, *beyond]), column(up(200), [up(60), up(-100), up(500)]))
        book.add_seam((0, 0), (1, 0), pairs=[(0, 0), (1, 1), (2, 2)])
        self.check(book, None)
        book.add_seam((0, 0), (1, 0), turned=True, pairs=[(1, 2)])
        self.check(book, (-6, 1, 0))

    def test_the_last_side_of_a_piece(self):
        one = still((0, 0), (50, 7), (100, 0)), [[], [], still((25, 0))]
        two = still((0, 0), (40, 0), (17, 90)), [still((10, 0)), [], []]
        book = book_of(one, two)
        book.add_seam((0, 2), (1, 0), turned=True, pairs=[(0, 0)])
        self.check(book, None)
        book.add_seam((0, 2), (1, 0), pairs=[(0, 0)])
        self.check(book, (-6, 1, 0))

    def test_two_sides_of_one_piece(self):
        corners = still((0, 0), (40, 0), (40, 60), (0, 60))
        book = book_of((corners, [still((10, 0)), still((40, 15)), still((30, 60)), []]))
        book.add_seam((0, 0), (0, 1), pairs=[(0, 0)])
        book.add_seam((0, 0), (0, 2), pairs=[(0, 0)])
        self.check(book, None)
        book.add_seam((0, 0), (0, 2), turned=True, pairs=[(0, 0)])
        self.check(book, (-6, 2, 0))

    def test_shares_that_are_very_near_to_each_other(self):
        book = book_of(column(up(20000), [up(10001)]), column(up(19998), [up(10000)]))
        book.add_seam((0, 0), (1, 0), pairs=[(0, 0)])
        self.check(book, (-6, 0, 0))

    def test_a_seam_apart_may_have_marks_that_meet(self):
        book = book_of(column(up(100), [up(30)]), column(up(200), [up(60)]))
        book.add_seam((0, 0), (1, 0), ease=1, pairs=[(0, 0)])
        self.check(book, None)

    def test_setting_moves_anew(self):
        book = book_of(column(up(100), [up(30)]), column(up(200), [up(60)]))
        book.add_seam((0, 0), (1, 0), pairs=[(0, 0)])
        book.set_moves(1, 1, (0, 1), (0, 0))
        self.check(book, (1, 0, 0))

    def test_many_books(self):
        source = random.Random(31)
        told = []
        for trial in range(150):
            tops = [source.choice((30, 60, 100)) for piece in range(3)]
            moves = [source.choice((0, 0, 0, 10, -5, -10)) for number in range(6)]
            pieces = []
            for piece in range(3):
                greater, lesser = moves[2 * piece:2 * piece + 2]
                marks = [up(tops[piece] * k // 10, greater * k // 10, lesser * k // 10) for k in (0, 2, 8, 10)]
                make = source.choice((column, hung))
                pieces.append(make(up(tops[piece], greater, lesser), marks))
            book = book_of(*pieces)
            for seam in range(source.randrange(1, 5)):
                pairs = [(k, source.choice((k, k, 3 - k))) for k in source.sample(range(4), source.randrange(3))]
                book.add_seam(*[(piece, 0) for piece in source.sample(range(3), 2)], source.random() < 0.5, 0, pairs)
            told.append(self.ask(first_parted, book))
            self.assertEqual(told[-1], expected(book))
        self.assertGreater(told.count(None), 10)
        self.assertGreater(len(set(told)), 8)

    def test_a_book_of_rings(self):
        book = book_of(*[(ring(5), [ring(4) for side in range(5)]) for piece in range(3)])
        for side in range(5):
            book.add_seam((0, side), (1, side), pairs=[(k, k) for k in range(4)])
        self.check(book, None)
        book.set_moves(1, 4, (0, 0), (17, 100))
        self.assertEqual(first_parted(book), expected(book))
        self.assertEqual(first_parted(book)[:2], (-6, 3))


if __name__ == "__main__":
    unittest.main()
