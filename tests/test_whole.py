"""What is promised over the whole program: whose the lists are, and that asking and refusals change nothing."""

import copy
import inspect
import unittest

from book_case import GREAT, SIZES, BookCase, state
from gradecut import errors
from gradecut.book import Book
from gradecut.changes import least_changes, make_changes
from gradecut.crossing import crossing
from gradecut.cloth import lay
from gradecut.cutting import hemmed, lay_out
from gradecut.hems import outline
from gradecut.sewing import (
    first_crossing, first_fault, first_parted, seam_apart, seam_meets, side_square, together,
)
from gradecut.text import read, write
from upright import post

PIECES = [post(300, (1, 2), (3, 4)), post(280, (0, 0), (5, -5), down=True), post(300, (-1, 0), (0, 2))]
MARKS = [[(0, 100, 0, 1, 0, 1), (0, 200, 0, 2, 0, 2)], [], [(50, 50, 0, 0, 0, 0)]]


def whole_book():
    book = Book()
    for corners in PIECES:
        book.add_piece(corners, MARKS)
    book.add_seam((0, 0), (1, 0), True, 20, [(0, 1), (1, 0)])
    book.add_seam((0, 0), (2, 0), False, 0, [(0, 0)])
    book.add_seam((1, 2), (2, 2), False, 3)
    book.let_out(1)
    return book


def questions(book):
    """Every question to the book, as a function without arguments."""
    asked = [
        lambda: first_parted(book), lambda: first_crossing(book), lambda: first_fault(book), lambda: write(book),
        lambda: least_changes(book, [0, 1], [(0, 0)]), lambda: least_changes(book, [1]),
        lambda: least_changes(book, []),
        lambda: lay_out(book, [(0, 0), (1, 3), (0, -6)], 4000, 5), lambda: lay_out(book, [], 10),
        lambda: book.piece_count(), lambda: book.seam_count(), lambda: book.size,
    ]
    for number in range(3):
        asked += [
            lambda number=number: book.spots(number), lambda number=number: book.seam(number),
            lambda number=number: hemmed(book, number, 15), lambda number=number: seam_apart(book, number),
            lambda number=number: seam_meets(book, number, -3),
        ]
        for size in (None, *SIZES):
            asked.append(lambda number=number, size=size: book.corners(number, size))
        for side in range(3):
            asked += [
                lambda number=number, side=side: book.mark_spots(number, side),
                lambda number=number, side=side: book.marks(number, side, 2),
                lambda number=number, side=side: together(book, number, side),
                lambda number=number, side=side: side_square(book, number, side),
            ]
    return asked


def refused_calls(book):
    """Calls that are refused, each with its error."""
    beyond = [(0, 0, 0, 0, 0, 201)] * 3
    return [
        (errors.BadPiece, lambda: book.add_piece(beyond)),
        (errors.BadPiece, lambda: book.add_piece(PIECES[0], [[], [], [], []])),
        (errors.BadSeam, lambda: book.add_seam((0, 0), (0, 0))),
        (errors.NoSuch, lambda: book.add_seam((0, 0), (1, 0), pairs=[(0, 0), (0, 2)])),
        (errors.BadMove, lambda: book.set_moves(0, 0, (1, 1), (1, 201))),
        (errors.NoSuch, lambda: book.set_moves(0, -1, (1, 1), (1, 1))),
        (errors.BadSize, lambda: book.let_out(6)),
        (errors.BadSize, lambda: book.take_in(-1)),
        (errors.BadSize, lambda: book.let_out(GREAT)),
        (errors.NoSuch, lambda: make_changes(book, [(0, 0, 7, 7), (0, 3, 7, 7)])),
        (errors.BadMove, lambda: make_changes(book, [(0, 0, 7, 7), (0, 1, 7, 201)])),
        (errors.NotAlong, lambda: least_changes(book, [0, 2])),
        (errors.TooMany, lambda: least_changes(book, [0] * 9)),
        (errors.NoSuch, lambda: least_changes(book, [0], [(3, 0)])),
        (errors.BadSize, lambda: side_square(book, 0, 0, 7)),
        (errors.NoSuch, lambda: seam_meets(book, -1)),
        (errors.NoSuch, lambda: together(book, 0, -1)),
        (errors.NoSuch, lambda: hemmed(book, -1, 5)),
        (errors.TooWide, lambda: lay_out(book, [(0, 0)], 5)),
        (errors.BadText, lambda: read(write(book)[:-1])),
    ]


def spoil(told):
    """Changes every list within an answer."""
    if isinstance(told, (list, tuple)):
        for one in told:
            spoil(one)
    if isinstance(told, list):
        told.append("spoilt")
        told[0] = "spoilt"
        told.reverse()


class WholeTest(BookCase):
    def test_asking_changes_nothing(self):
        book = whole_book()
        before = state(book)
        for ask in questions(book):
            told = ask()
            self.assertEqual(state(book), before)
            self.assertEqual(ask(), told)

    def test_a_list_that_is_told_belongs_to_the_caller(self):
        book = whole_book()
        answers = [ask() for ask in questions(book)]
        before = copy.deepcopy(answers)
        for ask in questions(book):
            spoil(ask())
        self.assertEqual([ask() for ask in questions(book)], before)
        for told in answers:
            spoil(told)
        self.assertEqual([ask() for ask in questions(book)], before)

    def test_a_refused_call_changes_nothing(self):
        book = whole_book()
        answers = [ask() for ask in questions(book)]
        for error, call in refused_calls(book):
            with self.assertRaises(error) as taken:
                call()
            self.assertIs(type(taken.exception), error)
            self.assertEqual([ask() for ask in questions(book)], answers)

    def test_lists_that_are_handed_in_may_be_changed_later(self):
        corners, marks, pairs = copy.deepcopy((PIECES[0], MARKS, [(0, 1)]))
        told, kept, changes, wanted = [0], [(0, 0)], [(0, 1, 4, 4)], [(0, 0)]
        book = Book()
        book.add_piece(corners, marks)
        book.add_piece(corners, marks)
        book.add_seam((0, 0), (1, 0), pairs=pairs)
        handed = copy.deepcopy((corners, marks, pairs, told, kept, changes, wanted))
        make_changes(book, changes)
        least_changes(book, told, kept)
        lay_out(book, wanted, 4000)
        self.assertEqual((corners, marks, pairs, told, kept, changes, wanted), handed)
        before = (state(book), write(book), least_changes(book, [0], [(0, 0)]))
        for one in (corners, marks, pairs, told, kept, changes, wanted):
            spoil(one)
        self.assertEqual((state(book), write(book), least_changes(book, [0], [(0, 0)])), before)

    def test_lists_of_places_stay(self):
        places, oblongs = [(0, 0), (50, 0), (0, 60)], [(3, 4), (5, 6)]
        first = (crossing(places), outline(places, 3), lay(oblongs, 9))
        self.assertEqual((places, oblongs), ([(0, 0), (50, 0), (0, 60)], [(3, 4), (5, 6)]))
        again = copy.deepcopy(first)
        spoil(first)
        self.assertEqual((crossing(places), outline(places, 3), lay(oblongs, 9)), again)

    def test_two_books_share_nothing(self):
        one, two = whole_book(), whole_book()
        answers = [ask() for ask in questions(two)]
        one.set_moves(0, 0, (9, 9), (9, 9))
        one.let_out(2)
        one.add_piece(PIECES[1])
        one.add_seam((0, 1), (1, 1))
        make_changes(one, [(1, 1, 3, 3)])
        self.assertEqual([ask() for ask in questions(two)], answers)
        self.assertEqual(state(Book()), (0, [], []))


class InterfaceTest(unittest.TestCase):
    def test_the_names_and_arguments_are_those_of_the_interface(self):
        asked = {
            side_square: "(book, piece, side, size=None)", seam_apart: "(book, seam, size=None)",
            seam_meets: "(book, seam, size=None)", first_parted: "(book)", first_crossing: "(book)",
            first_fault: "(book)", together: "(book, piece, corner)", least_changes: "(book, told, kept=None)",
            make_changes: "(book, changes)", hemmed: "(book, piece, breadth, size=None)",
            lay_out: "(book, wanted, width, room=0)", write: "(book)", read: "(text)",
            crossing: "(corners)", outline: "(corners, breadth)", lay: "(oblongs, width)",
            Book.add_piece: "(self, corners, marks=None)",
            Book.add_seam: "(self, first, second, turned=False, ease=0, pairs=None)",
            Book.set_moves: "(self, piece, corner, greater, lesser)",
            Book.corners: "(self, piece, size=None)", Book.marks: "(self, piece, side, size=None)",
        }
        for function, arguments in asked.items():
            self.assertEqual(str(inspect.signature(function)), arguments, function)


if __name__ == "__main__":
    unittest.main()
