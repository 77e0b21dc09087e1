import unittest
from fractions import Fraction

from gradecut import errors
from gradecut.shares import same_share, share

LINES = (
    ((0, 0), (10, 0)),
    ((0, 0), (0, 7)),
    ((3, 4), (-5, 10)),
    ((-7, -2), (-1, -11)),
    ((20, -30), (-40, 55)),
    ((-30000, -30000), (30000, 30000)),
    ((30000, -29999), (-30000, 29998)),
)
PLACES = ((0, 0), (1, 0), (5, 3), (-4, 9), (12, -1), (-3, -3), (30000, -30000), (-29999, 30000))


def expected(start, end, at):
    whole = (end[0] - start[0]) ** 2 + (end[1] - start[1]) ** 2
    part = (at[0] - start[0]) * (end[0] - start[0]) + (at[1] - start[1]) * (end[1] - start[1])
    told = Fraction(part, whole)
    return (told.numerator, told.denominator)


class ShareTest(unittest.TestCase):
    def test_the_start_and_the_end(self):
        for start, end in LINES:
            self.assertEqual(share(start, end, start), (0, 1))
            self.assertEqual(share(start, end, end), (1, 1))

    def test_places_on_the_line(self):
        self.assertEqual(share((0, 0), (10, 0), (3, 0)), (3, 10))
        self.assertEqual(share((0, 0), (0, 12), (0, 8)), (2, 3))
        self.assertEqual(share((1, 1), (7, 9), (4, 5)), (1, 2))
        self.assertEqual(share((7, 9), (1, 1), (4, 5)), (1, 2))
        self.assertEqual(share((-10, 0), (-2, 0), (-4, 0)), (3, 4))

    def test_places_ahead_of_the_start(self):
        self.assertEqual(share((0, 0), (10, 0), (-3, 0)), (-3, 10))
        self.assertEqual(share((0, 0), (10, 0), (-20, 0)), (-2, 1))
        self.assertEqual(share((5, 5), (5, 11), (5, 1)), (-2, 3))

    def test_places_behind_the_end(self):
        self.assertEqual(share((0, 0), (10, 0), (15, 0)), (3, 2))
        self.assertEqual(share((0, 0), (10, 0), (20, 0)), (2, 1))
        self.assertEqual(share((5, 11), (5, 5), (5, 1)), (5, 3))

    def test_places_aside(self):
        self.assertEqual(share((0, 0), (10, 0), (4, 99)), (2, 5))
        self.assertEqual(share((0, 0), (10, 0), (4, -99)), (2, 5))
        self.assertEqual(share((0, 0), (10, 0), (0, 50)), (0, 1))
        self.assertEqual(share((0, 0), (10, 0), (10, 50)), (1, 1))
        self.assertEqual(share((0, 0), (3, 4), (5, 0)), (3, 5))
        self.assertEqual(share((0, 0), (3, 4), (-4, 3)), (0, 1))
        self.assertEqual(share((0, 0), (3, 4), (1, -8)), (-29, 25))

    def test_every_line_with_every_place(self):
        for start, end in LINES:
            for at in PLACES:
                with self.subTest(start=start, end=end, at=at):
                    self.assertEqual(share(start, end, at), expected(start, end, at))
                    self.assertEqual(share(end, start, at), expected(end, start, at))

    def test_every_small_line(self):
        small = [(x, y) for x in range(-2, 3) for y in range(-2, 3)]
        for end in small:
            if end == (1, -1):
                continue
            for at in small:
                self.assertEqual(share((1, -1), end, at), expected((1, -1), end, at), (end, at))

    def test_the_answer_is_a_tuple_of_two_whole_numbers(self):
        for at in ((0, 0), (3, 0), (-3, 0)):
            told = share((0, 0), (10, 0), at)
            self.assertIs(type(told), tuple)
            self.assertEqual([type(number) for number in told], [int, int])
            self.assertGreaterEqual(told[1], 1)

    def test_a_start_and_an_end_that_are_one_place_are_refused(self):
        for one in ((0, 0), (5, -3), (-30000, 30000)):
            for at in (one, (0, 0), (1, 1), (30000, -30000)):
                with self.assertRaises(errors.NoLength) as taken:
                    share(one, one, at)
                self.assertIs(type(taken.exception), errors.NoLength)
                self.assertIsInstance(taken.exception, errors.GradeError)

    def test_a_line_that_is_short_but_has_a_length_is_taken(self):
        self.assertEqual(share((5, 5), (5, 6), (5, 5)), (0, 1))
        self.assertEqual(share((5, 5), (4, 5), (0, 0)), (5, 1))


class SameShareTest(unittest.TestCase):
    def check(self, first, second):
        one, two = Fraction(*first), Fraction(*second)
        for left, right in ((first, second), (second, first)):
            self.assertIs(same_share(left, right, False), one == two, (left, right))
            self.assertIs(same_share(left, right, True), one + two == 1, (left, right))

    def test_equal_fractions(self):
        self.assertIs(same_share((1, 2), (1, 2), False), True)
        self.assertIs(same_share((1, 2), (3, 6), False), True)
        self.assertIs(same_share((4, 6), (6, 9), False), True)
        self.assertIs(same_share((0, 1), (0, 9), False), True)
        self.assertIs(same_share((-1, 3), (-2, 6), False), True)

    def test_unequal_fractions(self):
        self.assertIs(same_share((1, 2), (1, 3), False), False)
        self.assertIs(same_share((1, 2), (2, 2), False), False)
        self.assertIs(same_share((1, 3), (-1, 3), False), False)
        self.assertIs(same_share((0, 1), (1, 1), False), False)
        self.assertIs(same_share((2, 3), (3, 2), False), False)

    def test_turned_where_the_two_make_one(self):
        self.assertIs(same_share((1, 2), (1, 2), True), True)
        self.assertIs(same_share((1, 3), (2, 3), True), True)
        self.assertIs(same_share((2, 6), (8, 12), True), True)
        self.assertIs(same_share((0, 1), (1, 1), True), True)
        self.assertIs(same_share((0, 5), (7, 7), True), True)
        self.assertIs(same_share((-1, 3), (4, 3), True), True)
        self.assertIs(same_share((5, 2), (-6, 4), True), True)

    def test_turned_where_the_two_make_something_else(self):
        self.assertIs(same_share((1, 3), (1, 3), True), False)
        self.assertIs(same_share((0, 1), (0, 1), True), False)
        self.assertIs(same_share((1, 1), (1, 1), True), False)
        self.assertIs(same_share((-1, 3), (-1, 3), True), False)
        self.assertIs(same_share((1, 3), (-2, 3), True), False)
        self.assertIs(same_share((-1, 2), (-1, 2), True), False)

    def test_every_small_pair(self):
        small = [(part, whole) for part in range(-5, 8) for whole in range(1, 6)]
        for first in small:
            for second in small:
                self.check(first, second)

    def test_great_fractions(self):
        whole = 7200000000
        self.check((whole - 1, whole), (1, whole))
        self.check((whole - 1, whole), (2, whole))
        self.check((whole - 1, whole), (2 * whole - 2, 2 * whole))
        self.check((whole - 1, whole), (whole, whole + 1))
        self.check((10 ** 25, 10 ** 25 + 1), (10 ** 25 + 1, 10 ** 25 + 2))

    def test_shares_of_a_line_and_of_the_line_turned(self):
        for start, end in LINES:
            for at in PLACES:
                ahead, back = share(start, end, at), share(end, start, at)
                self.assertIs(same_share(ahead, back, True), True)
                self.assertIs(same_share(ahead, back, False), ahead == (1, 2))


if __name__ == "__main__":
    unittest.main()
