import itertools
import random
import unittest

from book_case import SIZES, BookCase, still
from gradecut.book import Book
from gradecut.changes import least_changes, make_changes
from gradecut.sewing import seam_meets
from upright import book_of, expected_changes, post, told_corners


def chance_posts(source, count, height, reach):
    """Posts whose moves run from -reach to reach, some of them running down."""
    posts = []
    for piece in range(count):
        moves = [source.randrange(-reach, reach + 1) for move in range(4)]
        posts.append(post(height, (moves[0], moves[1]), (moves[2], moves[3]), source.random() < 0.5))
    return posts


class ChangesCase(BookCase):
    def check(self, book, told, answer, kept=None):
        """The answer is the one by hand, and its changes let the told seams meet in all sizes."""
        handed = (list(told), None if kept is None else list(kept))
        result = self.ask_in_any_size(least_changes, book, handed[0], handed[1])
        self.assertEqual(handed, (list(told), None if kept is None else list(kept)))
        self.assertEqual(result, answer)
        self.check_kinds(result)
        if result[0] is None:
            self.check_made(book, told, result[1], kept)

    def check_kinds(self, result):
        self.assertIs(type(result), tuple)
        self.assertEqual(len(result), 2)
        self.assertIs(type(result[1]), list)
        for change in result[1]:
            self.assertEqual([type(change)] + [type(number) for number in change], [tuple] + [int] * 4)

    def check_made(self, book, told, changes, kept):
        made = book_of(*[book.spots(piece) for piece in range(book.piece_count())])
        for number in range(book.seam_count()):
            made.add_seam(*book.seam(number)[:4])
        make_changes(made, changes)
        self.assertTrue(all(seam_meets(made, seam, size) for seam in told for size in SIZES))
        self.assertEqual(least_changes(made, told, kept), (None, []))

    def check_tried(self, book, told, kept=None):
        """The answer is the one that is found by trying every way."""
        answer = expected_changes(book, told, kept or ())
        self.check(book, told, answer, kept)
        return answer


class NothingToChangeTest(ChangesCase):
    def test_no_seam_is_told(self):
        self.check(Book(), [], (None, []))
        self.check(Book(), [], (None, []), [])
        book = book_of(post(300), post(300, high=(5, 5)))
        book.add_seam((0, 0), (1, 0))
        self.check(book, [], (None, []))
        self.check(book, [], (None, []), [(0, 0), (1, 2)])

    def test_sides_that_grow_alike(self):
        book = book_of(post(300, (1, 2), (4, -1)), post(300, (-9, 6), (-6, 3)), post(250, (6, 9), (9, 6), down=True))
        book.add_seam((0, 0), (1, 0))
        book.add_seam((1, 0), (2, 0), ease=50)
        self.check(book, [0, 1], (None, []))
        self.check(book, [1], (None, []), [(0, 0), (0, 1), (1, 0), (1, 1)])
        self.check(book, [0, 1], (None, []), [(piece, corner) for piece in range(3) for corner in range(3)])

    def test_a_seam_that_is_not_told_has_no_bearing(self):
        book = book_of(post(300), post(300), post(200, high=(9, 9)))
        book.add_seam((0, 0), (1, 0))
        book.add_seam((1, 0), (2, 0))
        book.add_seam((2, 1), (1, 2))
        self.check(book, [0], (None, []))


class OneSeamTest(ChangesCase):
    def test_the_first_by_corners(self):
        # The first side grows by 2 too much. Of the ways with sum 2 the first leaves corner 0 where it is.
        book = book_of(post(300, (0, 0), (3, 0)), post(300, (0, 0), (1, 0)))
        book.add_seam((0, 0), (1, 0))
        self.check(book, [0], (None, [(0, 1, 1, 0)]))
        self.check_tried(book, [0])

    def test_the_first_side_grows_too_little(self):
        # Here the lower corner of piece 0 may go down, and so it does.
        book = book_of(post(300, (0, 0), (1, 0)), post(300, (0, 0), (3, 0)))
        book.add_seam((0, 0), (1, 0))
        self.check(book, [0], (None, [(0, 0, -2, 0)]))
        self.check_tried(book, [0])

    def test_the_order_of_the_corners_not_of_the_sides(self):
        book = book_of(post(300, (0, 0), (1, 0)), post(300, (0, 0), (3, 0)))
        book.add_seam((1, 0), (0, 0), turned=True)
        self.check(book, [0], (None, [(0, 0, -2, 0)]))

    def test_lesser_sizes(self):
        book = book_of(post(300, (0, 0), (0, -3)), post(300, (0, 0), (0, -1)))
        book.add_seam((0, 0), (1, 0))
        self.check(book, [0], (None, [(0, 0, 0, -2)]))
        self.check_tried(book, [0])

    def test_both_moves_at_once(self):
        book = book_of(post(300, (0, 0), (3, -3)), post(300, (0, 0), (1, -1)))
        book.add_seam((0, 0), (1, 0))
        self.check(book, [0], (None, [(0, 0, 0, -2), (0, 1, 1, -3)]))
        self.check_tried(book, [0])

    def test_a_corner_whose_two_moves_change(self):
        book = book_of(post(300, (0, 0), (3, 4)), post(300, (0, 0), (1, 1)))
        book.add_seam((0, 0), (1, 0))
        self.check(book, [0], (None, [(0, 1, 1, 1)]))

    def test_sides_that_run_down(self):
        for first_down in (False, True):
            for second_down in (False, True):
                for one, two in (((3, -3), (1, -1)), ((1, -2), (2, 0)), ((-4, 2), (0, 0))):
                    book = book_of(post(300, (0, 0), one, first_down), post(300, (0, 0), two, second_down))
                    book.add_seam((0, 0), (1, 0), first_down != second_down)
                    self.check_tried(book, [0])
        book = book_of(post(300, (0, 0), (3, 0), down=True), post(300, (0, 0), (1, 0)))
        book.add_seam((0, 0), (1, 0))
        self.check(book, [0], (None, [(0, 0, 1, 0)]))

    def test_whether_it_is_turned_has_no_bearing(self):
        for turned in (False, True):
            book = book_of(post(300, (2, 1), (3, 0)), post(300, (0, 0), (2, 5), down=True))
            book.add_seam((0, 0), (1, 0), turned)
            self.check(book, [0], least_changes(book, [0]))
            self.assertEqual(least_changes(book, [0]), (None, [(0, 0, 1, -5)]))

    def test_moves_at_the_bounds(self):
        book = book_of(post(300, (9, -9), (-9, 9)), post(300, (-9, 9), (9, -9)))
        book.add_seam((0, 0), (1, 0))
        # Whatever both grow by, the sum is 36 for gy and 36 for ly.
        self.check(book, [0], (None, [(0, 0, -9, -9), (0, 1, -9, -9), (1, 0, -9, -9), (1, 1, -9, -9)]))

    def test_a_corner_that_can_go_no_further(self):
        book = book_of(post(300, (-9, 0), (0, 0)), post(300, (0, 0), (9, 2)), post(300, (0, 0), (9, 9)))
        book.add_seam((0, 0), (1, 0))
        book.add_seam((0, 0), (2, 0))
        self.check_tried(book, [0])
        self.check_tried(book, [1])

    def test_the_tip_of_a_piece_has_no_bearing(self):
        book = book_of(post(300, (0, 0), (3, 0)), post(300, (0, 0), (1, 0)))
        book.add_seam((0, 0), (1, 0))
        self.check(book, [0], (None, [(0, 1, 1, 0)]), [(0, 2), (1, 2)])

    def test_the_heights_differ_by_the_ease(self):
        for ease in (0, 1, 91, 400):
            book = book_of(post(200 + ease, (0, 0), (3, 1)), post(200, (0, 0), (1, 1), down=True))
            book.add_seam((0, 0), (1, 0), ease=ease)
            self.check(book, [0], (None, [(0, 1, 1, 1)]))

    def test_two_sides_of_one_piece(self):
        corners = [(0, 0, 0, 1, 0, 0), (500, 0, 7, 0, -7, 0), (500, 300, 7, 4, -7, 0), (0, 300, 0, 3, 0, -1)]
        book = book_of(corners)
        book.add_seam((0, 1), (0, 3), turned=True)
        # Side 1 grows by 4, side 3 by 2; in lesser sizes side 1 stays and side 3 shrinks by 1.
        self.check(book, [0], (None, [(0, 0, -1, -1)]))
        self.check_tried(book, [0])

    def test_sides_far_apart_and_moving_across(self):
        low, high = post(300, (0, 0), (3, 0), at=(-20000, -20000), across=(200, -200)), post(300, (0, 0), (1, 0))
        book = book_of(low, high)
        book.add_seam((0, 0), (1, 0))
        self.check(book, [0], (None, [(0, 1, 1, 0)]))


class SeveralSeamsTest(ChangesCase):
    def test_seams_that_share_a_side(self):
        book = book_of(post(300, high=(5, 0)), post(300, high=(1, 0)), post(300, high=(1, 0)))
        book.add_seam((0, 0), (1, 0))
        book.add_seam((0, 0), (2, 0))
        self.check(book, [0, 1], (None, [(0, 1, 1, 0)]))
        self.check(book, [1, 0], (None, [(0, 1, 1, 0)]))

    def test_the_middle_one_of_three(self):
        book = book_of(post(300, high=(0, 0)), post(300, high=(2, 0)), post(300, high=(5, 0)))
        book.add_seam((0, 0), (1, 0))
        book.add_seam((1, 0), (2, 0))
        self.check(book, [0, 1], (None, [(0, 0, -2, 0), (2, 1, 2, 0)]))
        self.check_tried(book, [0, 1])

    def test_seams_apart_from_one_another(self):
        book = book_of(*[post(300, high=(high, -high)) for high in (3, 1, 1, 2)])
        book.add_seam((3, 0), (2, 0))
        book.add_seam((0, 0), (1, 0))
        answer = (None, [(0, 0, 0, -2), (0, 1, 1, -3), (2, 0, -1, 0), (2, 1, 1, -2)])
        self.check(book, [0, 1], answer)
        self.check(book, [1, 0], answer)
        self.check(book, [0], (None, answer[1][2:]))
        self.check_tried(book, [0, 1])

    def test_a_chain(self):
        book = book_of(*[post(300 - 10 * k, high=(k % 3, -k), down=k % 2 == 1) for k in range(4)])
        for k in range(3):
            book.add_seam((k, 0), (k + 1, 0), ease=10)
        self.check_tried(book, [0, 1, 2])
        self.check_tried(book, [2, 0, 1])
        self.check_tried(book, [0, 2])

    def test_a_ring(self):
        book = book_of(*[post(300, high=(k % 2, k)) for k in range(3)])
        for k in range(3):
            book.add_seam((k, 0), ((k + 1) % 3, 0))
        self.check_tried(book, [0, 1, 2])
        self.check_tried(book, [2, 1])
        self.assertEqual(least_changes(book, [0, 1, 2]), least_changes(book, [1, 2]))

    def test_a_ring_whose_eases_can_not_all_be_met(self):
        book = book_of(post(320), post(310), post(300))
        book.add_seam((0, 0), (1, 0), ease=10)
        book.add_seam((1, 0), (2, 0), ease=10)
        book.add_seam((0, 0), (2, 0), ease=20)
        book.add_seam((0, 0), (2, 0), ease=19)
        self.check(book, [0, 1, 2], (None, []))
        self.check(book, [0, 1, 2, 3], (3, []))
        self.check(book, [3, 0, 1, 2], (3, []))

    def test_groups_that_are_bound_by_a_later_seam(self):
        book = book_of(*[post(300, high=(high, 0)) for high in (0, 1, 3, 4)])
        book.add_seam((0, 0), (1, 0))
        book.add_seam((2, 0), (3, 0))
        book.add_seam((1, 0), (2, 0))
        self.check_tried(book, [0, 1])
        self.check_tried(book, [0, 1, 2])

    def test_one_pair_of_sides_in_two_seams(self):
        book = book_of(post(300, high=(2, 0)), post(300, high=(1, 0)))
        book.add_seam((0, 0), (1, 0))
        book.add_seam((1, 0), (0, 0), turned=True)
        self.check(book, [0, 1], least_changes(book, [0]))

    def test_told_twice(self):
        book = book_of(post(300, high=(3, 0)), post(300, high=(1, 0)), post(200))
        book.add_seam((0, 0), (1, 0))
        book.add_seam((1, 0), (2, 0))
        self.check(book, [0, 0], (None, [(0, 1, 1, 0)]))
        self.check(book, [0] * 8, (None, [(0, 1, 1, 0)]))
        self.check(book, [0, 1, 0, 1], (1, []))
        self.check(book, [1, 0, 1], (1, []))

    def test_eight_seams(self):
        book = book_of(*[post(300, high=(k % 4, 0)) for k in range(9)])
        for k in range(8):
            book.add_seam((k, 0), (k + 1, 0))
        # Growths 0 1 2 3 0 1 2 3 0: with 1 for all the sum is the least, 9, and no other growth has it.
        answer = [(0, 0, -1, 0), (2, 1, 1, 0), (3, 1, 1, 0), (4, 0, -1, 0), (6, 1, 1, 0), (7, 1, 1, 0), (8, 0, -1, 0)]
        self.check(book, list(range(8)), (None, answer))
        self.check(book, list(range(7, -1, -1)), (None, answer))

    def test_sixteen_sides(self):
        corners = [(0, 0, 0, 0, 0, 0), (500, 0, 0, 0, 0, 0), (500, 300, 0, 2, 0, 0), (0, 300, 0, 1, 0, 0)]
        book = book_of(*[corners for piece in range(8)])
        for piece in range(8):
            book.add_seam((piece, 1), (piece, 3))
        self.check(book, list(range(8)), (None, [(piece, 0, -1, 0) for piece in range(8)]))


class KeptTest(ChangesCase):
    def setUp(self):
        self.book = book_of(post(300, (0, 0), (3, 0)), post(300, (0, 0), (1, 0)))
        self.book.add_seam((0, 0), (1, 0))

    def test_one_kept(self):
        self.check(self.book, [0], (None, [(0, 0, 2, 0)]), [(0, 1), (1, 0), (1, 1)])
        self.check(self.book, [0], (None, [(0, 1, 1, 0)]), [(0, 0)])
        self.check(self.book, [0], (None, [(1, 0, -2, 0)]), [(0, 0), (0, 1)])
        self.check(self.book, [0], (None, [(1, 1, 3, 0)]), [(0, 0), (0, 1), (1, 0)])
        for kept in ([(0, 1)], [(1, 0)], [(1, 1)], [(0, 1), (1, 0)], [(0, 1), (1, 1)], [(0, 0), (1, 1)]):
            self.check_tried(self.book, [0], kept)

    def test_all_kept(self):
        every = [(piece, corner) for piece in range(2) for corner in range(3)]
        self.check(self.book, [0], (0, []), every)
        self.check(self.book, [0], (0, []), [(0, 0), (0, 1), (1, 0), (1, 1)])

    def test_kept_twice_and_without_bearing(self):
        self.check(self.book, [0], (None, [(1, 0, -2, 0)]), [(0, 1), (0, 0), (0, 1), (0, 2), (1, 2), (0, 0)])

    def test_none_kept(self):
        self.check(self.book, [0], least_changes(self.book, [0]), [])
        self.assertEqual(least_changes(self.book, told=[0], kept=None), least_changes(book=self.book, told=[0]))

    def test_a_kept_corner_that_leaves_too_little(self):
        book = book_of(post(300, (-9, 0), (9, 0)), post(300, (0, 0), (0, 0)), post(300, (0, 9), (0, -9)))
        book.add_seam((0, 0), (1, 0))
        book.add_seam((1, 0), (2, 0))
        # Piece 0 grows by 18, which piece 1 with its lower corner at 0 can not.
        self.check(book, [0], (0, []), [(0, 0), (0, 1), (1, 0)])
        self.check(book, [0], (0, []), [(0, 0), (0, 1), (1, 1)])
        self.check(book, [0], (None, [(1, 0, -9, 0), (1, 1, 9, 0)]), [(0, 0), (0, 1)])
        self.check(book, [1], (1, []), [(2, 0), (2, 1), (1, 0)])
        self.check(book, [1], (None, [(1, 0, 0, 9), (1, 1, 0, -9)]), [(2, 0), (2, 1)])
        self.check(book, [0, 1], (1, []), [(0, 0), (0, 1), (2, 0), (2, 1)])
        self.check(book, [1, 0], (0, []), [(0, 0), (0, 1), (2, 0), (2, 1)])

    def test_a_kept_corner_at_the_edge_of_what_can_be_met(self):
        for gy, good in ((-9, True), (-8, False), (0, False)):
            book = book_of(post(300, (-9, 0), (9, 0)), post(300, (gy, 0), (0, 0)))
            book.add_seam((0, 0), (1, 0))
            self.check(book, [0], (None, [(1, 1, 9, 0)]) if good else (0, []), [(0, 0), (0, 1), (1, 0)])

    def test_kept_ends_of_a_chain(self):
        book = book_of(post(300, high=(2, 1)), post(300, high=(0, 0)), post(300, high=(2, 1)), post(300, high=(2, 2)))
        book.add_seam((0, 0), (1, 0))
        book.add_seam((1, 0), (2, 0))
        book.add_seam((1, 0), (3, 0))
        ends = [(piece, corner) for piece in (0, 2, 3) for corner in (0, 1)]
        self.check(book, [0, 1], (None, [(1, 0, -2, -1)]), ends)
        self.check(book, [0, 1, 2], (2, []), ends)
        self.check(book, [0, 2, 1], (2, []), ends)
        self.check(book, [2, 1, 0], (1, []), ends)
        self.check(book, [2], (None, [(1, 0, -2, -2)]), ends)


class NoWayTest(ChangesCase):
    def setUp(self):
        # Seam 0 can be met, seam 1 is apart in the middle size, seam 2 as well, seam 3 can be met.
        self.book = book_of(post(300, high=(1, 1)), post(300), post(299), post(280, down=True))
        self.book.add_seam((0, 0), (1, 0))
        self.book.add_seam((1, 0), (2, 0))
        self.book.add_seam((2, 0), (3, 0), ease=20)
        self.book.add_seam((2, 0), (3, 0), ease=19)

    def test_apart_in_the_middle_size(self):
        self.check(self.book, [1], (1, []))
        self.check(self.book, [2], (2, []))
        self.check(self.book, [3], (None, []))

    def test_the_first_in_the_order_told(self):
        self.check(self.book, [0, 1], (1, []))
        self.check(self.book, [1, 0], (1, []))
        self.check(self.book, [0, 1, 2, 3], (1, []))
        self.check(self.book, [3, 2, 1, 0], (2, []))
        self.check(self.book, [0, 3, 2, 1], (2, []))
        self.check(self.book, [0, 3], (None, [(0, 1, 0, 0)]))

    def test_the_first_side_is_to_be_the_longer_one(self):
        book = book_of(post(300), post(320))
        book.add_seam((0, 0), (1, 0), ease=20)
        book.add_seam((1, 0), (0, 0), ease=20)
        self.check(book, [0], (0, []))
        self.check(book, [1], (None, []))
        self.check(book, [1, 0], (0, []))

    def test_a_seam_that_can_be_met_alone_but_not_along_with_those_ahead(self):
        book = book_of(post(300, high=(1, 0)), post(300), post(300, high=(2, 0)))
        book.add_seam((0, 0), (1, 0))
        book.add_seam((2, 0), (1, 0))
        kept = [(0, 0), (0, 1), (2, 0), (2, 1)]
        self.check(book, [0], (None, [(1, 0, -1, 0)]), kept)
        self.check(book, [1], (None, [(1, 0, -2, 0)]), kept)
        self.check(book, [0, 1], (1, []), kept)
        self.check(book, [1, 0], (0, []), kept)

    def test_a_seam_apart_from_those_ahead(self):
        book = book_of(post(300), post(300), post(300, high=(1, 0)), post(300))
        book.add_seam((0, 0), (1, 0))
        book.add_seam((2, 0), (3, 0))
        kept = [(2, 0), (2, 1), (3, 0), (3, 1)]
        self.check(book, [0, 1], (1, []), kept)
        self.check(book, [1, 0], (1, []), kept)
        self.check(book, [0], (None, []), kept)

    def test_lesser_sizes_alone_can_not_be_met(self):
        book = book_of(post(300, high=(0, 1)), post(300))
        book.add_seam((0, 0), (1, 0))
        self.check(book, [0], (0, []), [(0, 0), (0, 1), (1, 0), (1, 1)])


class TriedTest(ChangesCase):
    def test_small_books(self):
        source = random.Random(53)
        answers = []
        for trial in range(150):
            book = book_of(*chance_posts(source, 3, 300, 2))
            for seam in range(2):
                first, second = source.sample(range(3), 2)
                book.add_seam((first, 0), (second, 0), source.random() < 0.5, source.choice((0, 0, 0, 0, 0, 0, 0, 5)))
            told = source.choice(([0], [1], [0, 1], [1, 0]))
            corners = told_corners(book, told)
            kept = source.sample(corners, source.choice((0, 0, 1, len(corners) - 2, len(corners) - 1)))
            # Without a good way every one would be tried, so there few are free.
            if len(corners) - len(kept) > 3 and not all(seam_meets(book, seam, 0) for seam in told):
                kept = corners[:-2]
            answers.append(self.check_tried(book, told, kept))
        self.assertGreater(len([answer for answer in answers if answer[0] is None and answer[1]]), 20)
        self.assertGreater(len([answer for answer in answers if answer[0] is not None]), 5)

    def test_gy_and_ly_at_once(self):
        # Two corners are free, the lower ones; each of their 19 ** 4 ways is tried as a whole.
        book = book_of(post(300, (1, 0), (3, 2)), post(300, (0, 2), (-1, -2), down=True))
        book.add_seam((0, 0), (1, 0))
        ways = []
        for one in itertools.product(range(-9, 10), repeat=2):
            for two in itertools.product(range(-9, 10), repeat=2):
                grown = (3 - one[0] == -1 - two[0], 2 - one[1] == -2 - two[1])
                if grown == (True, True):
                    total = abs(one[0] - 1) + abs(one[1]) + abs(two[0]) + abs(two[1] - 2)
                    ways.append((total, [one, two]))
        news = min(ways)[1]
        answer = [(0, 0) + news[0], (1, 1) + news[1]]
        self.assertEqual(answer, [(0, 0, 1, 0), (1, 1, -3, -4)])
        self.check(book, [0], (None, answer[1:]), [(0, 1), (1, 0)])

    def test_numbers_at_the_bounds(self):
        source = random.Random(59)
        for trial in range(40):
            near = [source.choice((-9, -8, 8, 9)) for number in range(8)]
            book = book_of(
                post(300, (near[0], near[1]), (near[2], near[3]), source.random() < 0.5),
                post(300, (near[4], near[5]), (near[6], near[7]), source.random() < 0.5),
            )
            book.add_seam((0, 0), (1, 0))
            kept = source.sample(told_corners(book, [0]), source.choice((2, 2, 3)))
            self.check_tried(book, [0], kept)

    def test_longer_chains_are_met(self):
        source = random.Random(61)
        for trial in range(12):
            count = source.randrange(4, 10)
            book = book_of(*chance_posts(source, count, 200, 9))
            for k in range(count - 1):
                book.add_seam((k + 1, 0), (source.randrange(k + 1), 0))
            told = source.sample(range(count - 1), count - 1)
            self.check(book, told, least_changes(book, sorted(told)))


class OwnershipTest(ChangesCase):
    def test_what_is_told_belongs_to_the_caller(self):
        book = book_of(post(300, (0, 0), (3, 0)), post(300, (0, 0), (1, 0)), post(300))
        book.add_seam((0, 0), (1, 0))
        book.add_seam((0, 0), (2, 0), ease=1)
        for told in ([], [0], [1]):
            first = least_changes(book, told)
            again = least_changes(book, told)
            first[1].append((0, 0, 0, 0))
            first[1].insert(0, (1, 1, 1, 1))
            self.assertEqual(least_changes(book, told), again)

    def test_still_pieces(self):
        book = book_of(still((0, 0), (0, 200), (50, 90)), still((0, 0), (0, 200), (50, 90)))
        book.add_seam((0, 0), (1, 0))
        self.check(book, [0], (None, []))


if __name__ == "__main__":
    unittest.main()
