import unittest

from book_case import GREAT, TRIANGLE, TRIANGLE_MARKS, BookCase, ring, state
from gradecut.book import Book
from gradecut.errors import BadSeam, Full, NoSuch

ABSENT_SIDES = (
    (-1, 0), (-2, 0), (2, 0), (3, 0), (GREAT, 0), (-GREAT, 0),
    (0, -1), (0, -3), (0, 3), (0, 4), (0, GREAT), (0, -GREAT), (1, 4), (1, -4), (-1, -1), (2, 9),
)
# Side (0, 0) has two marks, side (1, 2) three.
ABSENT_PAIRS = ((2, 0), (-1, 0), (-2, 0), (GREAT, 0), (-GREAT, 0), (0, 3), (0, -1), (0, -3), (0, GREAT), (2, 3))


def book_of_two():
    book = Book()
    book.add_piece(TRIANGLE, TRIANGLE_MARKS)
    book.add_piece(ring(4), [[], ring(1), ring(3), ring(4)])
    return book


def full_book():
    book = book_of_two()
    for number in range(30):
        book.add_seam((0, number % 3), (1, number % 4), number % 2 == 0, number, [])
    return book


class AddSeamTest(BookCase):
    def setUp(self):
        self.book = book_of_two()

    def test_a_seam_with_everything(self):
        self.assertEqual(self.book.add_seam((0, 0), (1, 2), True, 12, [(0, 2), (1, 1)]), 0)
        self.assertEqual(self.book.seam(0), ((0, 0), (1, 2), True, 12, [(0, 2), (1, 1)]))

    def test_a_seam_with_names(self):
        self.book.add_seam(first=(1, 2), second=(0, 0), turned=True, ease=400, pairs=[(2, 1)])
        self.assertEqual(self.book.seam(0), ((1, 2), (0, 0), True, 400, [(2, 1)]))

    def test_what_is_left_out(self):
        self.book.add_seam((0, 0), (1, 2))
        self.book.add_seam((0, 0), (1, 2), pairs=None)
        self.book.add_seam((0, 0), (1, 2), pairs=[])
        for number in range(3):
            self.assertEqual(self.book.seam(number), ((0, 0), (1, 2), False, 0, []))

    def test_the_kinds_that_are_told(self):
        self.book.add_seam((0, 0), (1, 2), True, 3, [(0, 0)])
        self.book.add_seam((0, 0), (1, 2))
        for number in range(2):
            told = self.book.seam(number)
            self.assertEqual([type(one) for one in told], [tuple, tuple, bool, int, list])
            self.assertIs(type(told), tuple)

    def test_sides_of_one_piece(self):
        self.assertEqual(self.book.add_seam((0, 0), (0, 1)), 0)
        self.assertEqual(self.book.add_seam((0, 1), (0, 0)), 1)
        self.assertEqual(self.book.add_seam((0, 2), (0, 0), pairs=[(3, 1)]), 2)

    def test_the_same_side_number_of_two_pieces(self):
        self.assertEqual(self.book.add_seam((0, 1), (1, 1)), 0)

    def test_a_side_in_several_seams_and_a_mark_in_several_pairs(self):
        for number in range(3):
            self.assertEqual(self.book.add_seam((0, 0), (1, 2), pairs=[(0, 0), (0, 1), (1, 1), (0, 0)]), number)
        self.assertEqual(self.book.seam(2)[4], [(0, 0), (0, 1), (1, 1), (0, 0)])

    def test_every_side_that_is_there(self):
        sides = [(0, side) for side in range(3)] + [(1, side) for side in range(4)]
        for first in sides:
            for second in sides:
                book = book_of_two()
                if first == second:
                    self.check_refused(BadSeam, book, "add_seam", first, second)
                else:
                    self.assertEqual(book.add_seam(first, second), 0)
                    self.assertEqual(book.seam(0)[:2], (first, second))

    def test_every_mark_that_is_there(self):
        for one in range(2):
            for two in range(3):
                number = self.book.add_seam((0, 0), (1, 2), pairs=[(one, two)])
                self.assertEqual(self.book.seam(number)[4], [(one, two)])

    def test_eases(self):
        for ease in (0, 1, 399, 400):
            number = self.book.add_seam((0, 0), (1, 2), ease=ease)
            self.assertEqual(self.book.seam(number)[3], ease)
        for ease in (-1, 401, -400, 1000, GREAT, -GREAT):
            self.check_refused(BadSeam, self.book, "add_seam", (0, 0), (1, 2), False, ease)

    def test_counts_of_pairs(self):
        for count in range(5):
            pairs = [(k % 2, k % 3) for k in range(count)]
            number = self.book.add_seam((0, 0), (1, 2), pairs=pairs)
            self.assertEqual(self.book.seam(number)[4], pairs)
        for count in (5, 6, 20):
            pairs = [(k % 2, k % 3) for k in range(count)]
            self.check_refused(BadSeam, self.book, "add_seam", (0, 0), (1, 2), pairs=pairs)
            self.check_refused(BadSeam, self.book, "add_seam", (0, 0), (1, 2), pairs=[(0, 0)] * count)

    def test_a_side_paired_with_itself(self):
        for side in ((0, 0), (0, 2), (1, 3)):
            self.check_refused(BadSeam, self.book, "add_seam", side, side)
            self.check_refused(BadSeam, self.book, "add_seam", side, side, True, 5, [(0, 1)])

    def test_thirty_and_one_more(self):
        for number in range(30):
            self.assertEqual(self.book.seam_count(), number)
            self.assertEqual(self.book.add_seam((0, number % 3), (1, number % 4), ease=number), number)
        self.assertEqual(self.book.seam_count(), 30)
        self.check_refused(Full, self.book, "add_seam", (0, 0), (1, 2))
        for number in range(30):
            self.assertEqual(self.book.seam(number), ((0, number % 3), (1, number % 4), False, number, []))

    def test_a_refused_seam_takes_no_number(self):
        self.check_refused(NoSuch, self.book, "add_seam", (0, 0), (2, 0))
        self.check_refused(BadSeam, self.book, "add_seam", (0, 0), (0, 0))
        self.assertEqual(self.book.add_seam((0, 0), (1, 2)), 0)


class NoSuchTest(BookCase):
    def setUp(self):
        self.book = book_of_two()

    def test_a_piece_or_a_side_that_is_not_there(self):
        for side in ABSENT_SIDES:
            self.check_refused(NoSuch, self.book, "add_seam", side, (1, 2))
            self.check_refused(NoSuch, self.book, "add_seam", (0, 0), side)
            self.check_refused(NoSuch, self.book, "add_seam", side, side)

    def test_a_mark_that_is_not_there(self):
        for pair in ABSENT_PAIRS:
            for k in range(4):
                pairs = [(0, 0)] * 4
                pairs[k] = pair
                self.check_refused(NoSuch, self.book, "add_seam", (0, 0), (1, 2), pairs=pairs)

    def test_a_mark_of_a_side_without_marks(self):
        self.check_refused(NoSuch, self.book, "add_seam", (0, 1), (1, 2), pairs=[(0, 0)])
        self.check_refused(NoSuch, self.book, "add_seam", (0, 0), (1, 0), pairs=[(0, 0)])

    def test_each_mark_is_looked_for_on_its_own_side(self):
        self.check_refused(NoSuch, self.book, "add_seam", (0, 0), (1, 3), pairs=[(3, 1)])
        self.assertEqual(self.book.add_seam((0, 0), (1, 3), pairs=[(1, 3)]), 0)
        self.check_refused(NoSuch, self.book, "add_seam", (0, 0), (1, 3), True, pairs=[(3, 1)])

    def test_a_seam_that_is_not_there(self):
        self.book.add_seam((0, 0), (1, 2))
        self.book.add_seam((0, 1), (1, 2))
        for number in (-1, -2, 2, 3, GREAT, -GREAT):
            self.check_refused(NoSuch, self.book, "seam", number)


class OrderOfRefusalsTest(BookCase):
    def test_full_goes_ahead_of_all(self):
        book = full_book()
        for side in ABSENT_SIDES:
            self.check_refused(Full, book, "add_seam", side, (1, 2))
        self.check_refused(Full, book, "add_seam", (0, 0), (0, 0))
        self.check_refused(Full, book, "add_seam", (0, 0), (1, 2), ease=401)
        self.check_refused(Full, book, "add_seam", (0, 0), (1, 2), pairs=[(9, 9)] * 5)

    def test_no_such_goes_ahead_of_bad_seam(self):
        book = book_of_two()
        for ease in (-1, 401, GREAT):
            for side in ABSENT_SIDES:
                self.check_refused(NoSuch, book, "add_seam", side, (1, 2), ease=ease)
                self.check_refused(NoSuch, book, "add_seam", (0, 0), side, ease=ease)
            for pair in ABSENT_PAIRS:
                self.check_refused(NoSuch, book, "add_seam", (0, 0), (1, 2), ease=ease, pairs=[pair])
        self.check_refused(NoSuch, book, "add_seam", (0, 0), (0, 0), pairs=[(0, 2)])

    def test_a_mark_beyond_the_fourth_pair_is_looked_for_too(self):
        book = book_of_two()
        for pair in ABSENT_PAIRS:
            self.check_refused(NoSuch, book, "add_seam", (0, 0), (1, 2), pairs=[(0, 0)] * 4 + [pair])
            self.check_refused(NoSuch, book, "add_seam", (0, 0), (1, 2), pairs=[(0, 0)] * 8 + [pair])


class OwnershipTest(BookCase):
    def test_pairs_that_are_handed_in_stay_and_may_be_changed(self):
        book = book_of_two()
        pairs = [(0, 0), (1, 1)]
        book.add_seam((0, 0), (1, 2), pairs=pairs)
        self.assertEqual(pairs, [(0, 0), (1, 1)])
        pairs.append((1, 2))
        pairs[0] = (9, 9)
        self.assertEqual(book.seam(0)[4], [(0, 0), (1, 1)])

    def test_pairs_of_a_refused_seam_stay(self):
        book = book_of_two()
        pairs = [(0, 0)] * 5
        self.check_refused(BadSeam, book, "add_seam", (0, 0), (1, 2), pairs=pairs)
        self.assertEqual(pairs, [(0, 0)] * 5)

    def test_pairs_that_were_told_may_be_changed(self):
        book = book_of_two()
        book.add_seam((0, 0), (1, 2), pairs=[(0, 0), (1, 1)])
        book.add_seam((0, 0), (1, 2))
        before = state(book)
        for number in range(2):
            book.seam(number)[4].append((1, 2))
            book.seam(number)[4].clear()
        self.assertEqual(state(book), before)

    def test_one_list_of_pairs_for_several_seams(self):
        book = book_of_two()
        pairs = [(0, 0)]
        book.add_seam((0, 0), (1, 2), pairs=pairs)
        book.add_seam((0, 0), (1, 3), pairs=pairs)
        book.seam(0)[4].clear()
        pairs.clear()
        self.assertEqual([book.seam(number)[4] for number in range(2)], [[(0, 0)], [(0, 0)]])

    def test_two_books_share_nothing(self):
        one, two = book_of_two(), book_of_two()
        one.add_seam((0, 0), (1, 2), pairs=[(0, 0)])
        self.assertEqual((one.seam_count(), two.seam_count(), Book().seam_count()), (1, 0, 0))
        before = state(one)
        for number in range(30):
            two.add_seam((0, 1), (1, 1))
        self.assertEqual(state(one), before)

    def test_seams_stay_when_moves_and_size_change(self):
        book = full_book()
        before = [book.seam(number) for number in range(30)]
        book.set_moves(0, 0, (5, 5), (5, 5))
        book.let_out(6)
        book.add_piece(ring(3))
        self.assertEqual([book.seam(number) for number in range(30)], before)


if __name__ == "__main__":
    unittest.main()
