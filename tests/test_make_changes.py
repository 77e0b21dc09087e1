import unittest

from book_case import GREAT, SIZES, TRIANGLE, TRIANGLE_MARKS, BookCase, ring, state
from gradecut.book import Book
from gradecut.changes import least_changes, make_changes
from gradecut.errors import BadMove, NoSuch
from gradecut.sewing import seam_meets
from upright import book_of, post

ABSENT = (
    (-1, 0), (-2, 0), (2, 0), (3, 0), (GREAT, 0), (-GREAT, 0),
    (0, -1), (0, -3), (0, 3), (0, GREAT), (0, -GREAT), (1, 5), (1, -5), (-1, -1), (9, 9),
)


class MakeChangesTest(BookCase):
    def setUp(self):
        self.book = Book()
        self.book.add_piece(TRIANGLE, TRIANGLE_MARKS)
        self.book.add_piece(ring(5))
        self.book.add_seam((0, 0), (1, 0), True, 3)

    def check(self, changes):
        """Each corner named has its new gy and ly, and all else is as before."""
        before = state(self.book)
        spots = [self.book.spots(piece) for piece in range(2)]
        handed = list(changes)
        self.assertIsNone(make_changes(self.book, handed))
        self.assertEqual(handed, list(changes))
        for piece, corner, gy, ly in changes:
            x, y, gx, old_gy, lx, old_ly = spots[piece][corner]
            spots[piece][corner] = (x, y, gx, gy, lx, ly)
        self.assertEqual([self.book.spots(piece) for piece in range(2)], spots)
        after = state(self.book)
        self.assertEqual((after[0], after[2]), (before[0], before[2]))
        self.assertEqual([piece[1] for piece in after[1]], [piece[1] for piece in before[1]])

    def test_no_changes(self):
        self.check([])
        self.assertIsNone(make_changes(Book(), []))

    def test_one_corner(self):
        self.check([(0, 1, 9, -9)])
        self.assertEqual(self.book.spots(0)[1], (1000, 0, 5, 9, -7, -9))

    def test_several_corners(self):
        self.check([(0, 0, 1, 2), (0, 2, 0, 0), (1, 4, -5, 6)])
        self.check([(1, 4, 7, 7), (0, 1, 3, 3), (1, 0, 2, 2)])

    def test_every_corner(self):
        corners = [(0, corner) for corner in range(3)] + [(1, corner) for corner in range(5)]
        self.check([corner + (k, -k) for k, corner in enumerate(corners)])

    def test_moves_to_the_bounds(self):
        for gy, ly in ((200, 200), (-200, -200), (200, -200), (0, 200), (-10, 10)):
            self.check([(0, 1, gy, ly), (1, 1, ly, gy)])

    def test_a_corner_named_twice_has_the_last(self):
        self.check([(0, 1, 5, 5), (0, 1, 6, 7)])
        self.assertEqual(self.book.spots(0)[1], (1000, 0, 5, 6, -7, 7))

    def test_changes_that_change_nothing(self):
        before = state(self.book)
        self.check([(0, 1, 6, -8)])
        self.assertEqual(state(self.book), before)

    def test_the_size_at_hand_stays(self):
        self.book.let_out(2)
        self.check([(0, 1, 100, 50)])
        self.assertEqual(self.book.corners(0)[1], (1010, 200))
        self.assertEqual(self.book.corners(0, -1)[1], (993, 50))

    def test_the_list_may_be_changed_afterwards(self):
        changes = [(0, 1, 1, 1)]
        make_changes(self.book, changes)
        before = state(self.book)
        changes[0] = (0, 0, 5, 5)
        changes.clear()
        self.assertEqual(state(self.book), before)

    def test_what_is_not_there(self):
        for piece, corner in ABSENT:
            wrong = (piece, corner, 1, 1)
            for changes in ([wrong], [(0, 0, 5, 5), wrong], [wrong, (0, 0, 5, 5)], [(0, 0, 5, 5), wrong, (1, 1, 5, 5)]):
                self.check_asked_refused(NoSuch, make_changes, self.book, changes)
        self.check_asked_refused(NoSuch, make_changes, Book(), [(0, 0, 1, 1)])

    def test_numbers_beyond(self):
        for beyond in (201, -201, 1000, GREAT, -GREAT):
            for wrong in ((0, 1, beyond, 0), (0, 1, 0, beyond), (1, 4, beyond, beyond)):
                for changes in ([wrong], [(0, 0, 5, 5), wrong], [wrong, (0, 0, 5, 5)]):
                    self.check_asked_refused(BadMove, make_changes, self.book, changes)

    def test_no_such_goes_ahead_of_bad_move(self):
        for beyond in (201, -201, GREAT):
            for piece, corner in ABSENT:
                self.check_asked_refused(NoSuch, make_changes, self.book, [(piece, corner, beyond, 0)])
                self.check_asked_refused(NoSuch, make_changes, self.book, [(0, 0, beyond, 0), (piece, corner, 0, 0)])
                self.check_asked_refused(NoSuch, make_changes, self.book, [(piece, corner, 0, 0), (0, 0, 0, beyond)])

    def test_a_refused_list_stays(self):
        changes = [(0, 0, 5, 5), (0, 9, 5, 5)]
        self.check_asked_refused(NoSuch, make_changes, self.book, changes)
        self.assertEqual(changes, [(0, 0, 5, 5), (0, 9, 5, 5)])

    def test_another_book_stays(self):
        other = Book()
        other.add_piece(TRIANGLE, TRIANGLE_MARKS)
        before = state(other)
        make_changes(self.book, [(0, 0, 100, 100)])
        self.assertEqual(state(other), before)


class MadeOfLeastChangesTest(BookCase):
    def test_all_told_seams_meet_and_nothing_is_left_to_change(self):
        book = book_of(
            post(320, (1, -2), (7, 3), across=(4, -4)),
            post(300, (0, 9), (-9, 0), down=True),
            post(290, (5, 5), (5, -5)),
        )
        book.add_seam((0, 0), (1, 0), True, 20)
        book.add_seam((1, 0), (2, 0), True, 10)
        told = [1, 0]
        before = [book.spots(piece) for piece in range(3)]
        self.assertFalse(all(seam_meets(book, seam, size) for seam in told for size in SIZES))
        self.assertIsNone(make_changes(book, least_changes(book, told)[1]))
        self.assertTrue(all(seam_meets(book, seam, size) for seam in told for size in SIZES))
        self.assertEqual(least_changes(book, told), (None, []))
        for piece in range(3):
            for old, new in zip(before[piece], book.spots(piece)):
                self.assertEqual([old[k] for k in (0, 1, 2, 4)], [new[k] for k in (0, 1, 2, 4)])


if __name__ == "__main__":
    unittest.main()
