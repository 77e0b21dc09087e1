import unittest

from book_case import BAD_SIZES, GREAT, SIZES, BookCase, grown, still
from gradecut.book import Book
from gradecut.cutting import hemmed
from gradecut.errors import BadSize, Crossed, NoSuch
from gradecut.hems import outline

# An oblong that grows by 10 across and 20 up for each step, and shrinks by 30 up for each step.
OBLONG = [(0, 0, 0, 0, 0, 0), (400, 0, 10, 0, 0, 0), (400, 300, 10, 20, 0, -30), (0, 300, 0, 20, 0, -30)]
TRIANGLE = [(-5, 3, 1, 0, 2, -1), (700, 40, 7, -3, -9, 2), (200, 900, 0, 11, 5, -20)]
# Corner 2 comes down on the side from corner 0 to corner 1 in size 3.
CROSSED_FROM_THREE = [(0, 0, 0, 0, 0, 0), (100, 0, 0, 0, 0, 0), (100, 300, -10, -100, 0, 0), (0, 300, 0, 0, 0, 0)]
BOW = still((0, 0), (10, 10), (10, 0), (0, 10))


def oblong_outline(least_x, least_y, greatest_x, greatest_y):
    return [
        ((x, 1), (y, 1))
        for x, y in ((least_x, least_y), (greatest_x, least_y), (greatest_x, greatest_y), (least_x, greatest_y))
    ]


class HemmedTest(BookCase):
    def setUp(self):
        self.book = Book()
        for corners in (OBLONG, TRIANGLE, CROSSED_FROM_THREE, BOW):
            self.book.add_piece(corners)

    def check(self, piece, breadth, size, answer):
        told = self.ask(hemmed, self.book, piece, breadth, size)
        self.assertEqual(told, answer)
        self.assertIs(type(told), list)

    def test_an_oblong_by_hand(self):
        self.check(0, 15, 0, oblong_outline(-15, -15, 415, 315))
        self.check(0, 15, 2, oblong_outline(-15, -15, 435, 355))
        self.check(0, 15, -1, oblong_outline(-15, -15, 415, 285))

    def test_breadths(self):
        for breadth in (0, 1, 1000):
            self.check(0, breadth, 1, oblong_outline(-breadth, -breadth, 410 + breadth, 320 + breadth))

    def test_every_size(self):
        for size in SIZES:
            for breadth in (0, 1, 37, 1000):
                for piece, corners in enumerate((OBLONG, TRIANGLE)):
                    self.check(piece, breadth, size, outline([grown(spot, size) for spot in corners], breadth))

    def test_the_size_at_hand(self):
        self.check(0, 15, None, oblong_outline(-15, -15, 415, 315))
        self.book.let_out(2)
        self.check(0, 15, None, oblong_outline(-15, -15, 435, 355))
        self.assertEqual(hemmed(self.book, 0, 15), oblong_outline(-15, -15, 435, 355))
        self.assertEqual(hemmed(book=self.book, piece=0, breadth=15, size=0), oblong_outline(-15, -15, 415, 315))
        self.book.take_in(3)
        self.assertEqual(hemmed(self.book, 0, 15), oblong_outline(-15, -15, 415, 285))

    def test_crossed_in_the_size_that_is_asked(self):
        for size in SIZES:
            if size < 3:
                self.check(2, 5, size, outline([grown(spot, size) for spot in CROSSED_FROM_THREE], 5))
            else:
                self.check_asked_refused(Crossed, hemmed, self.book, 2, 5, size)
            self.check_asked_refused(Crossed, hemmed, self.book, 3, 5, size)

    def test_crossed_in_the_size_at_hand(self):
        self.assertEqual(len(hemmed(self.book, 2, 5)), 4)
        self.book.let_out(3)
        self.check_asked_refused(Crossed, hemmed, self.book, 2, 5)
        self.check_asked_refused(Crossed, hemmed, self.book, 2, 0, None)
        self.check(2, 5, 0, outline([(0, 0), (100, 0), (100, 300), (0, 300)], 5))

    def test_a_piece_that_is_not_there(self):
        for piece in (-1, -4, 4, 5, GREAT, -GREAT):
            for size in (None, 0, 4) + BAD_SIZES:
                self.check_asked_refused(NoSuch, hemmed, self.book, piece, 5, size)
        self.check_asked_refused(NoSuch, hemmed, Book(), 0, 5)

    def test_sizes_beyond(self):
        for size in BAD_SIZES:
            for piece in range(4):
                self.check_asked_refused(BadSize, hemmed, self.book, piece, 5, size)

    def test_what_is_told_belongs_to_the_caller(self):
        told = hemmed(self.book, 0, 15)
        told.clear()
        self.check(0, 15, 0, oblong_outline(-15, -15, 415, 315))


if __name__ == "__main__":
    unittest.main()
