import itertools
import random
import unittest

from book_case import GREAT, BookCase, ring, state
from gradecut.book import Book
from gradecut.errors import NoSuch
from gradecut.sewing import together


def book_of(*counts):
    book = Book()
    for count in counts:
        book.add_piece(ring(count))
    return book


def all_corners(book):
    return [(piece, corner) for piece in range(book.piece_count()) for corner in range(len(book.spots(piece)))]


def expected(book):
    """Every corner bears a name; a seam gives both of its corners the lesser one, until nothing changes."""
    names = {corner: corner for corner in all_corners(book)}

    def end(side):
        return (side[0], 0 if side[1] + 1 == len(book.spots(side[0])) else side[1] + 1)

    for again in range(len(names)):
        for number in range(book.seam_count()):
            first, second, turned = book.seam(number)[:3]
            two = (end(second), second) if turned else (second, end(second))
            for one, other in zip((first, end(first)), two):
                names[one] = names[other] = min(names[one], names[other])
    return {corner: sorted(other for other in names if names[other] == names[corner]) for corner in names}


class TogetherTest(BookCase):
    def check(self, book, piece, corner, answer):
        told = self.ask_in_any_size(together, book, piece, corner)
        self.assertEqual(told, answer)
        self.assertIs(type(told), list)
        for one in told:
            self.assertEqual([type(one)] + [type(number) for number in one], [tuple, int, int])

    def check_all(self, book):
        for (piece, corner), answer in expected(book).items():
            self.check(book, piece, corner, answer)

    def test_a_corner_without_seams(self):
        book = book_of(3, 4)
        for piece, corner in all_corners(book):
            self.check(book, piece, corner, [(piece, corner)])
        book.add_seam((0, 0), (1, 0))
        self.check(book, 0, 2, [(0, 2)])
        self.check(book, 1, 2, [(1, 2)])
        self.check(book, 1, 3, [(1, 3)])

    def test_a_straight_seam(self):
        book = book_of(3, 4)
        book.add_seam((0, 1), (1, 0))
        self.check(book, 0, 1, [(0, 1), (1, 0)])
        self.check(book, 1, 0, [(0, 1), (1, 0)])
        self.check(book, 0, 2, [(0, 2), (1, 1)])
        self.check(book, 1, 1, [(0, 2), (1, 1)])
        self.check_all(book)

    def test_a_turned_seam(self):
        book = book_of(3, 4)
        book.add_seam((0, 1), (1, 0), turned=True)
        self.check(book, 0, 1, [(0, 1), (1, 1)])
        self.check(book, 1, 1, [(0, 1), (1, 1)])
        self.check(book, 0, 2, [(0, 2), (1, 0)])
        self.check(book, 1, 0, [(0, 2), (1, 0)])
        self.check_all(book)

    def test_the_last_side_runs_back_to_corner_0(self):
        book = book_of(3, 4)
        book.add_seam((0, 2), (1, 3))
        self.check(book, 0, 0, [(0, 0), (1, 0)])
        self.check(book, 0, 2, [(0, 2), (1, 3)])
        book = book_of(3, 4)
        book.add_seam((0, 2), (1, 3), turned=True)
        self.check(book, 0, 0, [(0, 0), (1, 3)])
        self.check(book, 0, 2, [(0, 2), (1, 0)])

    def test_the_first_side_may_be_of_the_later_piece(self):
        book = book_of(3, 3)
        book.add_seam((1, 0), (0, 1))
        self.check(book, 1, 0, [(0, 1), (1, 0)])
        self.check(book, 0, 2, [(0, 2), (1, 1)])
        self.check_all(book)

    def test_a_chain_over_several_pieces(self):
        book = book_of(3, 3, 3, 3)
        book.add_seam((3, 0), (1, 1))
        book.add_seam((2, 2), (1, 1), turned=True)
        book.add_seam((2, 2), (0, 0))
        self.check(book, 0, 0, [(0, 0), (1, 2), (2, 2), (3, 1)])
        self.check(book, 3, 1, [(0, 0), (1, 2), (2, 2), (3, 1)])
        self.check(book, 0, 1, [(0, 1), (1, 1), (2, 0), (3, 0)])
        self.check_all(book)

    def test_a_chain_round_a_corner_by_different_sides(self):
        # Four pieces that come together in a point, each sewn to the next one.
        book = book_of(4, 4, 4, 4)
        book.add_seam((0, 1), (1, 0), turned=True)
        book.add_seam((1, 1), (2, 0), turned=True)
        book.add_seam((2, 1), (3, 0), turned=True)
        self.check(book, 0, 1, [(0, 1), (1, 1), (2, 1), (3, 1)])
        self.check_all(book)
        book.add_seam((3, 1), (0, 0), turned=True)
        self.check(book, 2, 1, [(0, 1), (1, 1), (2, 1), (3, 1)])
        self.check_all(book)

    def test_two_sides_of_one_piece(self):
        book = book_of(5)
        book.add_seam((0, 0), (0, 2))
        self.check(book, 0, 0, [(0, 0), (0, 2)])
        self.check(book, 0, 3, [(0, 1), (0, 3)])
        self.check(book, 0, 4, [(0, 4)])
        book = book_of(5)
        book.add_seam((0, 0), (0, 2), True)
        self.check(book, 0, 0, [(0, 0), (0, 3)])
        self.check(book, 0, 1, [(0, 1), (0, 2)])

    def test_two_sides_with_a_corner_in_common(self):
        book = book_of(4)
        book.add_seam((0, 0), (0, 1))
        for corner in range(3):
            self.check(book, 0, corner, [(0, 0), (0, 1), (0, 2)])
        book = book_of(4)
        # A dart: the corner in common is laid on itself.
        book.add_seam((0, 0), (0, 1), turned=True)
        self.check(book, 0, 1, [(0, 1)])
        self.check(book, 0, 0, [(0, 0), (0, 2)])

    def test_a_triangle_whose_sides_are_all_sewn(self):
        book = book_of(3)
        book.add_seam((0, 0), (0, 1))
        book.add_seam((0, 1), (0, 2))
        for corner in range(3):
            self.check(book, 0, corner, [(0, 0), (0, 1), (0, 2)])

    def test_one_seam_several_times(self):
        book = book_of(3, 3)
        for turned in (False, False, True):
            book.add_seam((0, 0), (1, 0), turned)
            book.add_seam((1, 0), (0, 0), turned)
        self.check(book, 0, 0, [(0, 0), (0, 1), (1, 0), (1, 1)])
        self.check(book, 0, 2, [(0, 2)])

    def test_by_piece_and_then_by_corner_as_numbers(self):
        book = book_of(12, *[3] * 9)
        for piece in (9, 3, 7):
            book.add_seam((0, 10), (piece, 1))
            book.add_seam((piece, 1), (0, 1))
        self.check(book, 7, 1, [(0, 1), (0, 10), (3, 1), (7, 1), (9, 1)])
        self.check_all(book)

    def test_a_long_chain(self):
        book = book_of(*[24] * 10)
        for number in range(30):
            book.add_seam((number % 10, number // 10 * 2), ((number + 1) % 10, (number + 1) // 10 * 2))
        self.check_all(book)

    def test_many_books(self):
        source = random.Random(47)
        sizes = []
        for trial in range(60):
            book = book_of(*[source.randrange(3, 6) for piece in range(4)])
            sides = all_corners(book)
            for seam in range(source.randrange(1, 9)):
                first, second = source.sample(sides, 2)
                book.add_seam(first, second, source.random() < 0.5)
            for (piece, corner), answer in expected(book).items():
                self.assertEqual(together(book, piece, corner), answer)
                sizes.append(len(answer))
        self.assertGreater(max(sizes), 6)

    def test_what_is_told_belongs_to_the_caller(self):
        book = book_of(3, 4)
        book.add_seam((0, 1), (1, 0))
        before = state(book)
        told = together(book, 0, 1)
        told.append((5, 5))
        told[0] = (9, 9)
        self.assertEqual(together(book, 0, 1), [(0, 1), (1, 0)])
        self.assertEqual(state(book), before)

    def test_what_is_not_there(self):
        book = book_of(3, 4)
        book.add_seam((0, 1), (1, 0))
        for piece, corner in itertools.chain(
            itertools.product((-1, -2, 2, 3, GREAT, -GREAT), (0, 9)),
            itertools.product((0,), (-1, -3, 3, 4, GREAT, -GREAT)), [(1, 4), (1, -4)],
        ):
            self.check_asked_refused(NoSuch, together, book, piece, corner)
        self.check_asked_refused(NoSuch, together, Book(), 0, 0)


if __name__ == "__main__":
    unittest.main()
