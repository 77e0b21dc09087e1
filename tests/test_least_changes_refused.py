import unittest

from book_case import GREAT, BookCase
from gradecut.book import Book
from gradecut.changes import least_changes
from gradecut.errors import NoSuch, NotAlong, SharedCorner, TooMany
from upright import book_of, post

# Upright sides 0 and 1 with corner 1 in common; side 3 stands alone.
STAIRS = [
    (0, 0, 0, 0, 0, 0), (0, 200, 0, 0, 0, 0), (0, 400, 0, 0, 0, 0), (900, 500, 0, 0, 0, 0), (900, 300, 0, 0, 0, 0),
]


def replaced(spot, index, number):
    return spot[:index] + (number,) + spot[index + 1:]


def sewn(first, second):
    book = book_of(first, second)
    book.add_seam((0, 0), (1, 0))
    return book


class RefusedCase(BookCase):
    def check(self, error, book, told, kept=None):
        handed = (list(told), None if kept is None else list(kept))
        self.check_asked_refused(error, least_changes, book, handed[0], handed[1])
        self.assertEqual(handed, (list(told), None if kept is None else list(kept)))

    def is_along(self, corners):
        """Whether side 0 of the piece counts as running along the grain, as first and as second side."""
        answers = []
        for first, second in (((0, 0), (1, 0)), ((1, 0), (0, 0))):
            book = book_of(corners, post(300))
            book.add_seam(first, second)
            try:
                least_changes(book, [0])
                answers.append(True)
            except NotAlong:
                answers.append(False)
        self.assertEqual(answers[0], answers[1])
        return answers[0]


class TooManyTest(RefusedCase):
    def test_eight_and_nine(self):
        book = sewn(post(300), post(300))
        for count in range(9):
            self.assertEqual(self.ask(least_changes, book, [0] * count), (None, []))
        for count in (9, 10, 100):
            self.check(TooMany, book, [0] * count)

    def test_nine_different_ones(self):
        book = book_of(*[post(300) for piece in range(10)])
        for piece in range(9):
            book.add_seam((piece, 0), (piece + 1, 0))
        self.assertEqual(self.ask(least_changes, book, list(range(8))), (None, []))
        self.assertEqual(self.ask(least_changes, book, list(range(1, 9))), (None, []))
        self.check(TooMany, book, list(range(9)))

    def test_ahead_of_all_others(self):
        book = sewn(post(108), post(300))
        self.check(TooMany, book, [0] * 9)
        self.check(TooMany, book, [7] * 9)
        self.check(TooMany, book, [0] * 8 + [-1], [(9, 9)])
        self.check(TooMany, Book(), [0] * 9)


class NoSuchTest(RefusedCase):
    def setUp(self):
        self.book = sewn(post(300), post(300))
        self.book.add_seam((0, 1), (1, 0))

    def test_a_seam_that_is_not_there(self):
        for seam in (-1, -2, 2, 3, GREAT, -GREAT):
            self.check(NoSuch, self.book, [seam])
            self.check(NoSuch, self.book, [0, seam])
            self.check(NoSuch, self.book, [0] * 7 + [seam])
        self.check(NoSuch, Book(), [0])

    def test_a_kept_corner_that_is_not_there(self):
        for corner in (
            (-1, 0), (-2, 0), (2, 0), (GREAT, 0), (-GREAT, 0),
            (0, -1), (0, -3), (0, 3), (0, GREAT), (0, -GREAT), (2, 9), (-1, -1),
        ):
            self.check(NoSuch, self.book, [0], [corner])
            self.check(NoSuch, self.book, [0], [(0, 0), (1, 2), corner])
            self.check(NoSuch, self.book, [], [corner])
        self.check(NoSuch, Book(), [], [(0, 0)])

    def test_ahead_of_not_along(self):
        self.check(NotAlong, self.book, [1])
        self.check(NoSuch, self.book, [1, 2])
        self.check(NoSuch, self.book, [1], [(0, 3)])
        self.check(NotAlong, self.book, [1], [(0, 2)])

    def test_ahead_of_shared_corner(self):
        book = book_of(STAIRS)
        book.add_seam((0, 0), (0, 1))
        self.check(NoSuch, book, [0, 1])
        self.check(NoSuch, book, [0], [(0, 5)])
        self.check(SharedCorner, book, [0], [(0, 4)])

    def test_ahead_of_a_seam_that_can_not_be_met(self):
        book = sewn(post(300), post(200))
        self.check(NoSuch, book, [0, 1])
        self.check(NoSuch, book, [0], [(0, 3)])
        self.assertEqual(least_changes(book, [0]), (0, []))


class NotAlongTest(RefusedCase):
    def test_sides_along_the_grain(self):
        self.assertTrue(self.is_along(post(300)))
        self.assertTrue(self.is_along(post(300, down=True)))
        self.assertTrue(self.is_along(post(20000, (9, -9), (-9, 9), at=(55, -1), across=(200, -200))))
        self.assertTrue(self.is_along(post(40000, at=(0, -20000), down=True)[:2] + [(9, 9, 0, 0, 0, 0)]))

    def test_heights(self):
        for down in (False, True):
            for height in (109, 110, 200):
                self.assertTrue(self.is_along(post(height, down=down)), height)
                self.assertTrue(self.is_along(post(height, (9, 9), (-9, -9), down=down)), height)
            for height in (108, 107, 1, 0):
                self.assertFalse(self.is_along(post(height, down=down)), height)
                self.assertFalse(self.is_along(post(height, (-9, -9), (9, 9), down=down)), height)

    def test_a_height_is_taken_in_the_middle_size(self):
        self.assertTrue(self.is_along(post(109, (9, 9), (0, 0))))
        self.assertFalse(self.is_along(post(108, (0, 0), (9, 9))))

    def test_what_must_be_the_same_at_both_ends(self):
        for down in (False, True):
            for end in (0, 1):
                for index in (0, 2, 4):
                    for change in (1, -1, 100):
                        corners = post(300, at=(10, 20), across=(5, 6), down=down)
                        corners[end] = replaced(corners[end], index, corners[end][index] + change)
                        self.assertFalse(self.is_along(corners), (index, change))

    def test_moves_at_the_bounds_and_one_beyond(self):
        for down in (False, True):
            for end in (0, 1):
                for index in (3, 5):
                    for number, along in (
                        (-9, True), (9, True), (0, True), (-10, False), (10, False), (-200, False), (200, False),
                    ):
                        corners = post(300, down=down)
                        corners[end] = replaced(corners[end], index, number)
                        self.assertEqual(self.is_along(corners), along, (index, number))

    def test_both_ends_beyond(self):
        self.assertFalse(self.is_along(post(300, (10, 0), (10, 0))))
        self.assertFalse(self.is_along(post(300, (0, -10), (0, -10))))

    def test_a_level_and_a_leaned_side(self):
        self.assertFalse(self.is_along([(0, 0, 0, 0, 0, 0), (300, 0, 0, 0, 0, 0), (0, 300, 0, 0, 0, 0)]))
        self.assertFalse(self.is_along([(0, 0, 0, 0, 0, 0), (1, 300, 0, 0, 0, 0), (100, 300, 0, 0, 0, 0)]))

    def test_the_other_sides_of_a_piece_have_no_bearing(self):
        book = sewn(post(300), post(300))
        book.add_seam((0, 1), (1, 2))
        self.assertEqual(least_changes(book, [0]), (None, []))
        self.check(NotAlong, book, [1])
        self.check(NotAlong, book, [0, 1])
        self.check(NotAlong, book, [1, 0])

    def test_the_last_side_of_a_piece(self):
        corners = [(0, 300, 0, 0, 0, 0), (900, 90, 0, 0, 0, 0), (0, 0, 0, 2, 0, 0)]
        book = book_of(corners, post(300))
        book.add_seam((0, 2), (1, 0), turned=False)
        # The side shrinks by 2; the first way by corners leaves its upper corner, corner 0, where it is.
        self.assertEqual(self.ask(least_changes, book, [0]), (None, [(0, 2, 0, 0)]))
        self.assertEqual(least_changes(book, [0], [(0, 2)]), (None, [(1, 1, -2, 0)]))
        self.assertEqual(least_changes(book, [0], [(0, 2), (1, 0), (1, 1)]), (None, [(0, 0, 2, 0)]))

    def test_ahead_of_shared_corner(self):
        book = book_of(STAIRS, post(300))
        book.add_seam((0, 0), (0, 1))
        book.add_seam((0, 2), (1, 0))
        self.check(SharedCorner, book, [0])
        self.check(NotAlong, book, [0, 1])
        self.check(NotAlong, book, [1, 0])

    def test_ahead_of_a_seam_that_can_not_be_met(self):
        book = sewn(post(300), post(200))
        book.add_seam((0, 1), (1, 0))
        self.assertEqual(least_changes(book, [0]), (0, []))
        self.check(NotAlong, book, [0, 1])


class SharedCornerTest(RefusedCase):
    def setUp(self):
        self.book = book_of(STAIRS, post(200), post(200))
        self.book.add_seam((0, 0), (0, 1))
        self.book.add_seam((0, 0), (1, 0))
        self.book.add_seam((2, 0), (0, 1))
        self.book.add_seam((0, 0), (0, 3))
        self.book.add_seam((0, 3), (0, 1))
        self.book.add_seam((1, 0), (2, 0))

    def test_in_one_seam(self):
        self.check(SharedCorner, self.book, [0])
        self.check(SharedCorner, self.book, [0, 0])

    def test_in_two_seams(self):
        self.check(SharedCorner, self.book, [1, 2])
        self.check(SharedCorner, self.book, [2, 1])
        self.check(SharedCorner, self.book, [2, 5, 1])
        self.check(SharedCorner, self.book, [3, 4])
        self.check(SharedCorner, self.book, [5, 0])

    def test_one_side_in_several_seams_shares_nothing_with_itself(self):
        for told in ([1], [2], [3], [4], [1, 3], [2, 4], [5], [1, 5, 3], [3, 1, 3, 5]):
            self.assertEqual(self.ask(least_changes, self.book, told), (None, []))

    def test_the_same_corner_numbers_of_two_pieces_share_nothing(self):
        self.assertEqual(self.ask(least_changes, self.book, [5]), (None, []))

    def test_round_corner_0(self):
        # Side 2 ends and side 0 begins in corner 0; both stand upright, one on the other.
        corners = [(0, 0, 0, 0, 0, 0), (0, 300, 0, 0, 0, 0), (0, -300, 0, 0, 0, 0)]
        book = book_of(corners)
        book.add_seam((0, 0), (0, 2))
        self.check(SharedCorner, book, [0])

    def test_ahead_of_a_seam_that_can_not_be_met(self):
        book = book_of(STAIRS)
        book.add_seam((0, 0), (0, 3), ease=7)
        book.add_seam((0, 0), (0, 1))
        self.assertEqual(least_changes(book, [0]), (0, []))
        self.check(SharedCorner, book, [0, 1])

    def test_kept_corners_have_no_bearing(self):
        every = [(0, corner) for corner in range(5)]
        self.check(SharedCorner, self.book, [0], every)


if __name__ == "__main__":
    unittest.main()
