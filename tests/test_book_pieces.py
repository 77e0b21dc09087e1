import copy
import unittest

from book_case import BAD_SIZES, GREAT, MIDDLE, TRIANGLE, TRIANGLE_MARKS, BookCase, ring, state
from gradecut.book import Book
from gradecut.errors import BadMove, BadPiece, BadSize, Full, NoSuch
from gradecut.spots import place

BOUNDS = (20000, 20000, 200, 200, 200, 200)


def replaced(spot, index, number):
    return spot[:index] + (number,) + spot[index + 1:]


def full_book():
    book = Book()
    for number in range(10):
        book.add_piece(ring(3 + number))
    return book


class NewBookTest(BookCase):
    def test_a_new_book_is_empty_and_in_the_middle_size(self):
        book = Book()
        self.assertEqual((book.size, book.piece_count(), book.seam_count()), (0, 0, 0))
        self.assertIs(type(book.size), int)

    def test_nothing_is_there(self):
        book = Book()
        for number in (0, 1, -1, GREAT, -GREAT):
            self.check_refused(NoSuch, book, "spots", number)
            self.check_refused(NoSuch, book, "mark_spots", number, 0)
            self.check_refused(NoSuch, book, "corners", number)
            self.check_refused(NoSuch, book, "marks", number, 0)
            self.check_refused(NoSuch, book, "seam", number)
            self.check_refused(NoSuch, book, "set_moves", number, 0, (0, 0), (0, 0))


class AddPieceTest(BookCase):
    def test_numbers_come_in_order(self):
        book = Book()
        for number in range(10):
            self.assertEqual(book.piece_count(), number)
            self.assertEqual(book.add_piece(ring(3 + number)), number)
        self.assertEqual(book.piece_count(), 10)
        self.assertEqual([len(book.spots(number)) for number in range(10)], list(range(3, 13)))

    def test_corners_and_marks_are_told_as_they_came(self):
        book = Book()
        book.add_piece(TRIANGLE, TRIANGLE_MARKS)
        self.assertEqual(book.spots(0), TRIANGLE)
        self.assertEqual([book.mark_spots(0, side) for side in range(3)], TRIANGLE_MARKS)
        self.assertIs(type(book.spots(0)), list)
        self.assertIs(type(book.mark_spots(0, 1)), list)

    def test_every_count_of_corners(self):
        book = Book()
        for count in (0, 1, 2, 25, 26, 100):
            self.check_refused(BadPiece, book, "add_piece", ring(count))
            self.check_refused(BadPiece, book, "add_piece", ring(count), [[] for side in range(count)])
        for count in range(3, 25):
            book = Book()
            self.assertEqual(book.add_piece(ring(count)), 0)
            self.assertEqual(book.spots(0), ring(count))
            self.assertEqual([book.mark_spots(0, side) for side in range(count)], [[]] * count)
            self.check_refused(NoSuch, book, "mark_spots", 0, count)

    def test_no_marks(self):
        book = Book()
        book.add_piece(ring(4))
        book.add_piece(ring(4), None)
        book.add_piece(ring(4), marks=None)
        book.add_piece(corners=ring(4), marks=[[], [], [], []])
        for piece in range(4):
            self.assertEqual([book.mark_spots(piece, side) for side in range(4)], [[], [], [], []])
            self.assertEqual([book.marks(piece, side) for side in range(4)], [[], [], [], []])

    def test_marks_on_each_side(self):
        for count in (3, 24):
            for side in range(count):
                for number in range(5):
                    marks = [[] for k in range(count)]
                    marks[side] = ring(number)
                    book = Book()
                    self.assertEqual(book.add_piece(ring(count), marks), 0)
                    self.assertEqual([book.mark_spots(0, k) for k in range(count)], marks)

    def test_more_than_four_marks_on_a_side(self):
        book = Book()
        for side in range(3):
            for number in (5, 6, 24):
                marks = [ring(4), ring(4), ring(4)]
                marks[side] = ring(number)
                self.check_refused(BadPiece, book, "add_piece", ring(3), marks)
        self.assertEqual(book.add_piece(ring(3), [ring(4), ring(4), ring(4)]), 0)

    def test_too_many_and_too_few_lists_of_marks(self):
        book = Book()
        for count in (0, 1, 2, 4, 5, 24):
            self.check_refused(BadPiece, book, "add_piece", ring(3), [[] for side in range(count)])
        self.check_refused(BadPiece, book, "add_piece", ring(24), [[] for side in range(23)])
        self.check_refused(BadPiece, book, "add_piece", ring(24), [[] for side in range(25)])

    def test_each_number_of_a_corner_at_its_bounds_and_beyond(self):
        for corner in (0, 1, 2):
            for index, bound in enumerate(BOUNDS):
                for number in (bound, -bound, bound - 1, 1 - bound, 0):
                    corners = [MIDDLE] * 3
                    corners[corner] = replaced(MIDDLE, index, number)
                    book = Book()
                    self.assertEqual(book.add_piece(corners), 0)
                    self.assertEqual(book.spots(0), corners)
                for number in (bound + 1, -bound - 1, bound + 50, GREAT, -GREAT):
                    corners = [MIDDLE] * 3
                    corners[corner] = replaced(MIDDLE, index, number)
                    self.check_refused(BadPiece, Book(), "add_piece", corners)

    def test_each_number_of_a_mark_at_its_bounds_and_beyond(self):
        for side, mark in ((0, 0), (1, 1), (2, 3), (2, 0)):
            for index, bound in enumerate(BOUNDS):
                for number in (bound, -bound, 0):
                    marks = [[MIDDLE], [MIDDLE] * 2, [MIDDLE] * 4]
                    marks[side][mark] = replaced(MIDDLE, index, number)
                    book = Book()
                    self.assertEqual(book.add_piece(ring(3), marks), 0)
                    self.assertEqual(book.mark_spots(0, side), marks[side])
                for number in (bound + 1, -bound - 1, GREAT, -GREAT):
                    marks = [[MIDDLE], [MIDDLE] * 2, [MIDDLE] * 4]
                    marks[side][mark] = replaced(MIDDLE, index, number)
                    self.check_refused(BadPiece, Book(), "add_piece", ring(3), marks)

    def test_a_piece_that_crosses_itself_or_has_no_length_is_taken(self):
        book = Book()
        self.assertEqual(book.add_piece([MIDDLE] * 3), 0)
        crossed = [(0, 0), (9, 9), (9, 0), (0, 9)]
        self.assertEqual(book.add_piece([(x, y, 0, 0, 0, 0) for x, y in crossed]), 1)

    def test_the_eleventh_piece_is_refused_whatever_it_is_like(self):
        book = full_book()
        for corners in (ring(3), ring(24), ring(2), ring(25), [], [(GREAT,) * 6] * 3):
            self.check_refused(Full, book, "add_piece", corners)
            self.check_refused(Full, book, "add_piece", corners, [])
            self.check_refused(Full, book, "add_piece", corners, [ring(5)] * len(corners))

    def test_a_refused_piece_takes_no_number(self):
        book = Book()
        for number in range(10):
            self.check_refused(BadPiece, book, "add_piece", ring(2))
            self.check_refused(BadPiece, book, "add_piece", ring(3), [ring(5), [], []])
            self.assertEqual(book.add_piece(ring(3)), number)


class SetMovesTest(BookCase):
    def setUp(self):
        self.book = Book()
        self.book.add_piece(TRIANGLE, TRIANGLE_MARKS)
        self.book.add_piece(ring(4))

    def test_moves_are_set_and_the_place_stays(self):
        self.assertIsNone(self.book.set_moves(0, 1, (11, -12), (-13, 14)))
        self.assertEqual(self.book.spots(0), [TRIANGLE[0], (1000, 0, 11, -12, -13, 14), TRIANGLE[2]])
        self.assertEqual([self.book.mark_spots(0, side) for side in range(3)], TRIANGLE_MARKS)
        self.assertEqual(self.book.spots(1), ring(4))
        self.assertEqual(self.book.corners(0, 0)[1], (1000, 0))
        self.assertEqual(self.book.corners(0, 2)[1], (1022, -24))
        self.assertEqual(self.book.corners(0, -2)[1], (974, 28))

    def test_the_last_corner_of_the_last_piece(self):
        self.book.set_moves(1, 3, (1, 2), (3, 4))
        self.assertEqual(self.book.spots(1), ring(4)[:3] + [ring(4)[3][:2] + (1, 2, 3, 4)])
        self.assertEqual(self.book.spots(0), TRIANGLE)

    def test_each_number_at_its_bounds_and_beyond(self):
        for index in range(4):
            for number in (200, -200, 0, 199):
                moves = replaced((1, 2, 3, 4), index, number)
                self.book.set_moves(0, 2, moves[:2], moves[2:])
                self.assertEqual(self.book.spots(0)[2], (0, 900) + moves)
            for number in (201, -201, 1000, GREAT, -GREAT):
                moves = replaced((1, 2, 3, 4), index, number)
                self.check_refused(BadMove, self.book, "set_moves", 0, 2, moves[:2], moves[2:])

    def test_a_piece_or_a_corner_that_is_not_there(self):
        for moves in ((0, 0), (201, 0), (0, GREAT)):
            for piece in (-1, -2, 2, 3, GREAT, -GREAT):
                self.check_refused(NoSuch, self.book, "set_moves", piece, 0, moves, (0, 0))
            for corner in (-1, -2, -3, 3, 4, GREAT, -GREAT):
                self.check_refused(NoSuch, self.book, "set_moves", 0, corner, (0, 0), moves)
        self.check_refused(NoSuch, self.book, "set_moves", 1, 4, (0, 0), (0, 0))

    def test_set_again(self):
        self.book.set_moves(0, 0, (200, 200), (200, 200))
        self.book.set_moves(0, 0, TRIANGLE[0][2:4], TRIANGLE[0][4:])
        self.assertEqual(self.book.spots(0), TRIANGLE)


class SizeTest(BookCase):
    def setUp(self):
        self.book = Book()
        self.book.add_piece(TRIANGLE, TRIANGLE_MARKS)

    def test_letting_out_and_taking_in_to_the_bounds(self):
        for size in range(1, 7):
            self.assertEqual(self.book.let_out(1), size)
            self.assertEqual(self.book.size, size)
        self.check_refused(BadSize, self.book, "let_out", 1)
        for size in range(5, -7, -1):
            self.assertEqual(self.book.take_in(1), size)
            self.assertEqual(self.book.size, size)
        self.check_refused(BadSize, self.book, "take_in", 1)

    def test_every_size_by_every_number_of_steps(self):
        for size in range(-6, 7):
            for steps in range(-14, 15):
                for method, way in (("let_out", 1), ("take_in", -1)):
                    book = Book()
                    book.add_piece(TRIANGLE)
                    book.let_out(size) if size >= 0 else book.take_in(-size)
                    goal = size + way * steps
                    if steps >= 0 and -6 <= goal <= 6:
                        self.assertEqual(getattr(book, method)(steps), goal)
                        self.assertEqual(book.size, goal)
                        self.assertEqual(book.corners(0), [place(spot, goal) for spot in TRIANGLE])
                    else:
                        self.check_refused(BadSize, book, method, steps)
                        self.assertEqual(book.size, size)

    def test_very_great_steps(self):
        for steps in (GREAT, -GREAT):
            self.check_refused(BadSize, self.book, "let_out", steps)
            self.check_refused(BadSize, self.book, "take_in", steps)

    def test_by_nought(self):
        self.book.let_out(4)
        self.assertEqual((self.book.let_out(0), self.book.take_in(0), self.book.size), (4, 4, 4))

    def test_let_out_and_taken_in_again_is_the_same(self):
        before = state(self.book)
        for steps in range(7):
            self.book.let_out(steps)
            self.book.take_in(steps)
            self.assertEqual(state(self.book), before)
            self.book.take_in(steps)
            self.book.let_out(steps)
            self.assertEqual(state(self.book), before)


class CornersAndMarksTest(BookCase):
    def setUp(self):
        self.book = Book()
        self.book.add_piece(TRIANGLE, TRIANGLE_MARKS)
        self.book.add_piece(ring(24), [ring(k % 5) for k in range(24)])

    def test_each_size_that_is_handed_in(self):
        for at_hand in (0, 4):
            self.book.let_out(at_hand)
            for size in range(-6, 7):
                self.assertEqual(self.book.corners(0, size), [place(spot, size) for spot in TRIANGLE])
                self.assertEqual(self.book.corners(1, size=size), [place(spot, size) for spot in ring(24)])
                for side in range(3):
                    marks = [place(spot, size) for spot in TRIANGLE_MARKS[side]]
                    self.assertEqual(self.book.marks(0, side, size), marks)
                    self.assertEqual(self.book.marks(0, side, size=size), marks)
            self.assertEqual(self.book.size, at_hand)

    def test_places_reckoned_by_hand(self):
        self.assertEqual(self.book.corners(0, 2), [(2, 4), (1010, 12), (18, 920)])
        self.assertEqual(self.book.corners(0, -2), [(-6, -8), (986, -16), (-22, 876)])
        self.assertEqual(self.book.marks(0, 0, 3), [(303, 3), (606, 6)])
        self.assertEqual(self.book.marks(0, 0, -3), [(303, 3), (606, 6)])

    def test_the_size_at_hand(self):
        self.book.take_in(6)
        for size in range(-6, 7):
            self.assertEqual(self.book.size, size)
            for told in (self.book.corners(0), self.book.corners(0, None), self.book.corners(0, size=None)):
                self.assertEqual(told, self.book.corners(0, size))
            for told in (self.book.marks(0, 2), self.book.marks(0, 2, None), self.book.marks(0, 2, size=None)):
                self.assertEqual(told, self.book.marks(0, 2, size))
            if size < 6:
                self.book.let_out(1)

    def test_size_nought_is_the_middle_size_and_not_the_one_at_hand(self):
        self.book.let_out(5)
        self.assertEqual(self.book.corners(0, 0), [(0, 0), (1000, 0), (0, 900)])
        self.assertEqual(self.book.marks(0, 0, 0), [(300, 0), (600, 0)])

    def test_sizes_beyond(self):
        for size in BAD_SIZES:
            self.check_refused(BadSize, self.book, "corners", 0, size)
            for side in range(3):
                self.check_refused(BadSize, self.book, "marks", 0, side, size)

    def test_what_is_not_there(self):
        for size in (None, 0, 6) + BAD_SIZES:
            for piece in (-1, -2, 2, 3, GREAT, -GREAT):
                self.check_refused(NoSuch, self.book, "corners", piece, size)
                self.check_refused(NoSuch, self.book, "marks", piece, 0, size)
            for side in (-1, -3, 3, 4, GREAT, -GREAT):
                self.check_refused(NoSuch, self.book, "marks", 0, side, size)

    def test_spots_that_are_not_there(self):
        for piece in (-1, -2, 2, GREAT, -GREAT):
            self.check_refused(NoSuch, self.book, "spots", piece)
            self.check_refused(NoSuch, self.book, "mark_spots", piece, 0)
        for side in (-1, -3, 3, GREAT, -GREAT):
            self.check_refused(NoSuch, self.book, "mark_spots", 0, side)

    def test_the_kinds_that_are_told(self):
        for told in (self.book.corners(0), self.book.marks(0, 2), self.book.marks(0, 1)):
            self.assertIs(type(told), list)
            for one in told:
                self.assertIs(type(one), tuple)
                self.assertEqual([type(number) for number in one], [int, int])


class OwnershipTest(BookCase):
    def setUp(self):
        self.book = Book()
        self.corners = list(TRIANGLE)
        self.marks = copy.deepcopy(TRIANGLE_MARKS)
        self.book.add_piece(self.corners, self.marks)

    def test_lists_that_are_handed_in_stay_as_they_are(self):
        self.book.set_moves(0, 0, (7, 7), (7, 7))
        self.book.let_out(3)
        self.assertEqual((self.corners, self.marks), (TRIANGLE, TRIANGLE_MARKS))
        for corners, marks in ((ring(2), [[], []]), (ring(3), [ring(5), [], []])):
            kept = copy.deepcopy((corners, marks))
            self.check_refused(BadPiece, self.book, "add_piece", corners, marks)
            self.assertEqual((corners, marks), kept)

    def test_lists_that_were_handed_in_may_be_changed(self):
        before = state(self.book)
        self.corners[0] = MIDDLE
        self.corners.append(MIDDLE)
        self.marks[0][0] = MIDDLE
        self.marks[1].append(MIDDLE)
        self.marks[2].clear()
        self.marks.append([])
        self.assertEqual(state(self.book), before)

    def test_one_list_for_several_sides_and_pieces(self):
        same = [MIDDLE]
        self.book.add_piece(self.corners, [same, same, same])
        self.book.add_piece(self.corners, [same, same, same])
        self.book.set_moves(1, 0, (50, 50), (50, 50))
        self.assertEqual((self.book.spots(0), self.book.spots(2)), (TRIANGLE, TRIANGLE))
        self.assertEqual(self.corners, TRIANGLE)
        same.append(MIDDLE)
        for piece in (1, 2):
            self.assertEqual([self.book.mark_spots(piece, side) for side in range(3)], [[MIDDLE]] * 3)

    def test_lists_that_were_told_may_be_changed(self):
        before = state(self.book)
        asked = [
            lambda: self.book.spots(0), lambda: self.book.mark_spots(0, 0), lambda: self.book.mark_spots(0, 1),
            lambda: self.book.corners(0), lambda: self.book.marks(0, 2), lambda: self.book.marks(0, 1, 3),
        ]
        for ask in asked:
            told = ask()
            kept = list(told)
            told.append("more")
            self.assertEqual(ask(), kept)
            told.clear()
            self.assertEqual(ask(), kept)
        self.assertEqual(state(self.book), before)

    def test_a_told_list_stays_when_the_book_changes(self):
        spots, corners = self.book.spots(0), self.book.corners(0)
        self.book.set_moves(0, 0, (50, 50), (50, 50))
        self.book.let_out(6)
        self.assertEqual(spots, TRIANGLE)
        self.assertEqual(corners, [(0, 0), (1000, 0), (0, 900)])

    def test_two_books_share_nothing(self):
        other = Book()
        self.assertEqual((other.size, other.piece_count()), (0, 0))
        other.add_piece(self.corners, self.marks)
        other.add_piece(ring(5))
        before = state(self.book)
        other.set_moves(0, 1, (99, 98), (97, 96))
        other.let_out(2)
        self.assertEqual(state(self.book), before)
        kept = state(other)
        self.book.take_in(4)
        self.book.set_moves(0, 2, (1, 1), (1, 1))
        self.assertEqual(state(other), kept)
        self.assertEqual((self.book.piece_count(), other.piece_count(), Book().piece_count()), (1, 2, 0))

    def test_asking_changes_nothing(self):
        before = state(self.book)
        for size in range(-6, 7):
            self.book.corners(0, size)
            self.book.marks(0, 0, size)
        self.assertEqual(state(self.book), before)


if __name__ == "__main__":
    unittest.main()
