import unittest

from book_case import SIZES, state
from gradecut.book import Book
from gradecut.cutting import lay_out
from gradecut.errors import Full, GradeError
from gradecut.sewing import first_crossing, first_fault, first_parted, seam_apart, side_square, together
from gradecut.text import read, write
from text_case import EMPTY, SAMPLE, TextCase, greatest_book, is_of_a_book, rings, sample_book


def answers(book):
    """What all questions tell of a book."""
    told = [state(book), write(book), first_parted(book), first_crossing(book), first_fault(book)]
    for piece in range(book.piece_count()):
        for side in range(len(book.spots(piece))):
            told.append([together(book, piece, side), book.mark_spots(piece, side), side_square(book, piece, side)])
            told.append([book.marks(piece, side, size) for size in SIZES])
    for seam in range(book.seam_count()):
        told.append([seam_apart(book, seam, size) for size in SIZES])
    for piece in range(book.piece_count()):
        try:
            told.append(lay_out(book, [(piece, 0)], 100000))
        except GradeError as error:
            told.append(type(error))
    return told


class WriteTest(TextCase):
    def check(self, book, text):
        told = self.ask(write, book)
        self.assertEqual(told, text)
        self.assertIs(type(told), str)
        self.assertTrue(is_of_a_book(told))

    def test_an_empty_book(self):
        self.check(Book(), EMPTY)

    def test_sizes_at_hand(self):
        for size in SIZES:
            book = Book()
            if size < 0:
                book.take_in(-size)
            else:
                book.let_out(size)
            self.check(book, f"gradecut {size}\nend\n")

    def test_a_piece_without_marks(self):
        book = Book()
        book.add_piece([(1, -2, 3, -4, 5, -6), (0, 0, 0, 0, 0, 0), (20000, -20000, 200, -200, 200, -200)])
        rows = ["gradecut 0", "piece", "corner 1 -2 3 -4 5 -6", "corner 0 0 0 0 0 0",
                "corner 20000 -20000 200 -200 200 -200", "end"]
        self.check(book, "".join(f"{row}\n" for row in rows))

    def test_marks_and_seams(self):
        self.check(sample_book(), SAMPLE)

    def test_moves_set_anew(self):
        book = sample_book()
        book.set_moves(0, 1, (0, -1), (200, -200))
        self.check(book, SAMPLE.replace("corner 1000 -20 5 6 -7 -8", "corner 1000 -20 0 -1 200 -200"))

    def test_turned_and_straight(self):
        for turned, word in ((True, "turned"), (False, "straight")):
            book = sample_book()
            book.add_seam((0, 2), (1, 1), turned, 1)
            self.check(book, SAMPLE[:-4] + f"seam 0 2 1 1 {word} 1\nend\n")


class BackAndForthTest(TextCase):
    def check_back(self, book):
        text = write(book)
        again = self.check_read(text)
        self.assertEqual(answers(again), answers(book))
        self.assertEqual(again.size, book.size)

    def test_books(self):
        for book in (Book(), sample_book(), rings()):
            self.check_back(book)

    def test_all_sizes_at_hand(self):
        for steps in range(7):
            for change in ("let_out", "take_in"):
                book = rings()
                getattr(book, change)(steps)
                self.check_back(book)
                self.assertEqual(read(write(book)).size, steps if change == "let_out" else -steps)

    def test_the_greatest_book(self):
        book = greatest_book()
        text = write(book)
        self.assertLess(len(text), 200000)
        again = self.check_read(text)
        self.assertEqual(state(again), state(book))
        with self.assertRaises(Full):
            again.add_piece(rings().spots(0))
        with self.assertRaises(Full):
            again.add_seam((0, 0), (0, 1))

    def test_a_book_that_was_read_goes_on(self):
        one, two = sample_book(), read(SAMPLE)
        for book in (one, two):
            self.assertEqual(book.add_piece(rings().spots(1)), 2)
            self.assertEqual(book.add_seam((2, 0), (0, 1), True, 5), 3)
            book.set_moves(1, 2, (9, 9), (8, 8))
            self.assertEqual(book.let_out(5), 3)
        self.assertEqual(write(one), write(two))
        self.assertEqual(answers(one), answers(two))

    def test_two_books_of_one_text_share_nothing(self):
        one, two = read(SAMPLE), read(SAMPLE)
        one.set_moves(0, 0, (1, 1), (1, 1))
        one.let_out(3)
        one.add_seam((0, 0), (1, 1))
        one.add_piece(rings().spots(0))
        self.assertEqual(write(two), SAMPLE)
        self.assertEqual(write(read(SAMPLE)), SAMPLE)

    def test_kinds(self):
        book = read(SAMPLE)
        self.assertEqual(state(book), state(sample_book()))
        self.assertEqual([type(one) for one in book.seam(0)], [tuple, tuple, bool, int, list])
        self.assertEqual({type(spot) for spot in book.spots(1) + book.mark_spots(1, 3)}, {tuple})
        self.assertEqual({type(number) for spot in book.spots(1) for number in spot}, {int})
        self.assertEqual({type(pair) for pair in book.seam(0)[4]}, {tuple})
        self.assertIs(type(book.size), int)


if __name__ == "__main__":
    unittest.main()
