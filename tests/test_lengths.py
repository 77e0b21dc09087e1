import math
import unittest
from decimal import Context, Decimal

from gradecut.lengths import compare, meets, square

TOP = 10 ** 40 - 1
# Two lengths below 10 ** 20 that are not a whole number apart miss each by more than
# one part in 10 ** 62, so that so many figures always decide.
EXACT = Context(prec=150)


def whole_gap(longer, shorter):
    long_root, short_root = math.isqrt(longer), math.isqrt(shorter)
    if long_root ** 2 == longer and short_root ** 2 == shorter:
        return long_root - short_root
    gap = EXACT.subtract(EXACT.sqrt(Decimal(longer)), EXACT.sqrt(Decimal(shorter)))
    return int(gap)


def expected(one, two):
    if one == two:
        return (0, 0, 1)
    low = whole_gap(max(one, two), min(one, two))
    return (1 if one > two else 2, low, low + 1)


def no_longer(shorter, tenths, longer):
    rest = longer - shorter - tenths ** 2
    return rest >= 0 and rest ** 2 >= (2 * tenths) ** 2 * shorter


class SquareTest(unittest.TestCase):
    def test_ordinary_places(self):
        self.assertEqual(square((0, 0), (3, 4)), 25)
        self.assertEqual(square((1, 2), (4, 3)), 10)
        self.assertEqual(square((10, 20), (15, 8)), 169)

    def test_same_x(self):
        self.assertEqual(square((7, 2), (7, 11)), 81)

    def test_same_y(self):
        self.assertEqual(square((-3, 5), (4, 5)), 49)

    def test_one_and_the_same_place(self):
        for at in ((0, 0), (5, -9), (-20000, 20000)):
            self.assertEqual(square(at, at), 0)

    def test_negative_numbers(self):
        self.assertEqual(square((-1, -2), (-4, -6)), 25)
        self.assertEqual(square((-1, 2), (4, -10)), 169)
        self.assertEqual(square((-20000, -20000), (20000, 20000)), 3200000000)

    def test_either_end_first(self):
        places = ((0, 0), (3, 4), (-5, 12), (-7, -7), (20000, -20000))
        for one in places:
            for two in places:
                self.assertEqual(square(one, two), square(two, one))
                self.assertEqual(square(one, two), (one[0] - two[0]) ** 2 + (one[1] - two[1]) ** 2)

    def test_a_square_is_a_whole_number(self):
        self.assertIs(type(square((0, 0), (3, 4))), int)

    def test_great_numbers(self):
        self.assertEqual(square((0, 0), (10 ** 20 - 1, 0)), (10 ** 20 - 1) ** 2)


class CompareTest(unittest.TestCase):
    def check(self, one, two):
        told = compare(one, two)
        self.assertEqual(told, expected(one, two), (one, two))
        shorter, longer = min(one, two), max(one, two)
        self.assertTrue(no_longer(shorter, told[1], longer), (one, two))
        self.assertFalse(no_longer(shorter, told[2], longer), (one, two))

    def check_both_ways(self, one, two):
        self.check(one, two)
        self.check(two, one)

    def test_the_examples_of_point_9(self):
        self.assertEqual(compare(0, 2), (2, 1, 2))
        self.assertEqual(compare(9, 1), (1, 2, 3))
        self.assertEqual(compare(5, 5), (0, 0, 1))

    def test_equal_squares(self):
        for one in (0, 1, 2, 3, 4, 25, 10 ** 20, 10 ** 39 + 7, (10 ** 20 - 1) ** 2, TOP):
            self.assertEqual(compare(one, one), (0, 0, 1))

    def test_whole_lengths(self):
        self.assertEqual(compare(25, 9), (1, 2, 3))
        self.assertEqual(compare(9, 25), (2, 2, 3))
        self.assertEqual(compare(100, 1), (1, 9, 10))
        self.assertEqual(compare(10000, 10201), (2, 1, 2))

    def test_lengths_that_are_no_whole_numbers(self):
        self.assertEqual(compare(2, 3), (2, 0, 1))
        self.assertEqual(compare(8, 2), (1, 1, 2))
        self.assertEqual(compare(99, 2), (1, 8, 9))
        self.assertEqual(compare(2, 101), (2, 8, 9))
        self.assertEqual(compare(17, 3), (1, 2, 3))
        self.assertEqual(compare(16, 3), (1, 2, 3))
        self.assertEqual(compare(15, 4), (1, 1, 2))

    def test_one_of_them_nought(self):
        self.assertEqual(compare(0, 0), (0, 0, 1))
        self.assertEqual(compare(1, 0), (1, 1, 2))
        self.assertEqual(compare(0, 1), (2, 1, 2))
        self.assertEqual(compare(0, 99), (2, 9, 10))
        self.assertEqual(compare(100, 0), (1, 10, 11))
        self.assertEqual(compare(TOP, 0), (1, 10 ** 20 - 1, 10 ** 20))

    def test_neighbours_of_the_squares_of_whole_lengths(self):
        for length in (1, 2, 3, 10, 1000, 10 ** 6 + 3, 2 ** 53, 10 ** 19, 10 ** 20 - 1):
            for off in (-1, 0, 1):
                one = length ** 2 + off
                for two in (0, 1, 2, 3, 4, 5, 9, one - 1, one, one + 1, (length // 2) ** 2, (length // 2) ** 2 + 1):
                    if two >= 0:
                        self.check_both_ways(one, two)

    def test_one_tenth_apart_and_just_not(self):
        for length in (1, 2, 7, 100, 2 ** 53, 10 ** 20 - 2):
            more = (length + 1) ** 2
            self.assertEqual(compare(more, length ** 2), (1, 1, 2))
            self.assertEqual(compare(length ** 2, more), (2, 1, 2))
            self.assertEqual(compare(more - 1, length ** 2), (1, 0, 1))
            self.assertEqual(compare(length ** 2 + 1, more), (2, 0, 1))

    def test_great_squares(self):
        self.assertEqual(compare(TOP, TOP - 1), (1, 0, 1))
        self.assertEqual(compare(1, TOP), (2, 10 ** 20 - 2, 10 ** 20 - 1))
        self.assertEqual(compare((10 ** 20 - 1) ** 2, 1), (1, 10 ** 20 - 2, 10 ** 20 - 1))
        great = (TOP, TOP - 1, TOP // 2, TOP // 3, TOP // 4, 10 ** 39, 10 ** 39 + 1, 2 * 10 ** 38, 5 ** 57, 7 ** 47)
        for one in great:
            for two in great + (0, 1, 2, 10 ** 20):
                self.check_both_ways(one, two)

    def test_every_pair_of_small_squares(self):
        for one in range(122):
            for two in range(122):
                self.check(one, two)

    def test_pairs_of_all_sizes(self):
        one, two = 1, 3
        while max(one, two) <= TOP:
            self.check_both_ways(one, two)
            one, two = 3 * two + 1, 2 * one + 5

    def test_squares_somewhat_beyond(self):
        self.check_both_ways(10 ** 40, 0)
        self.check_both_ways(10 ** 42 + 1, 10 ** 41)

    def test_the_answer_is_a_tuple_of_three_whole_numbers(self):
        for one, two in ((0, 2), (9, 1), (5, 5)):
            told = compare(one, two)
            self.assertIs(type(told), tuple)
            self.assertEqual([type(number) for number in told], [int, int, int])


class MeetsTest(unittest.TestCase):
    def test_ease_nought(self):
        for one in (0, 1, 2, 3, 4, 25, 10 ** 20 + 1, TOP):
            self.assertIs(meets(one, one, 0), True)
            self.assertIs(meets(one + 1, one, 0), False)
            self.assertIs(meets(one, one + 1, 0), False)

    def test_whole_lengths(self):
        for two in (0, 1, 2, 9, 100, 20000):
            for ease in (0, 1, 2, 5, 400):
                one = two + ease
                self.assertIs(meets(one ** 2, two ** 2, ease), True)
                self.assertIs(meets((one + 1) ** 2, two ** 2, ease), False)
                self.assertIs(meets(one ** 2, (two + 1) ** 2, ease), False)
                self.assertIs(meets(one ** 2, two ** 2, ease + 1), False)
                self.assertIs(meets(one ** 2 + 1, two ** 2, ease), False)
                self.assertIs(meets(one ** 2, two ** 2 + 1, ease), False)

    def test_lengths_that_are_no_whole_numbers(self):
        for root in (2, 3, 5, 6, 7, 50):
            for one in (root, 4 * root, 9 * root):
                for two in (root, 4 * root, 9 * root):
                    self.assertIs(meets(one, two, 0), one == two)
                    for ease in range(1, 25):
                        self.assertIs(meets(one, two, ease), False)

    def test_one_length_whole_and_one_not(self):
        for ease in range(6):
            self.assertIs(meets(9, 2, ease), False)
            self.assertIs(meets(8, 4, ease), False)
            self.assertIs(meets(2, 0, ease), False)

    def test_a_first_length_shorter_than_the_second(self):
        self.assertIs(meets(4, 9, 1), False)
        self.assertIs(meets(4, 9, 5), False)
        self.assertIs(meets(0, 1, 1), False)
        self.assertIs(meets(0, 25, 5), False)
        self.assertIs(meets(1, 9, 2), False)
        self.assertIs(meets(2, 8, 0), False)

    def test_the_ease_longer_than_the_first_length(self):
        self.assertIs(meets(9, 4, 5), False)
        self.assertIs(meets(1, 4, 3), False)
        self.assertIs(meets(0, 0, 1), False)

    def test_every_small_case(self):
        for one in range(60):
            for two in range(60):
                for ease in range(10):
                    roots = (math.isqrt(one), math.isqrt(two))
                    whole = roots[0] ** 2 == one and roots[1] ** 2 == two
                    due = roots[0] == roots[1] + ease if whole else ease == 0 and one == two
                    self.assertIs(meets(one, two, ease), due, (one, two, ease))

    def test_great_numbers(self):
        root = 10 ** 20 - 1
        self.assertIs(meets(root ** 2, 0, root), True)
        self.assertIs(meets(root ** 2, (root - 1) ** 2, 1), True)
        self.assertIs(meets(root ** 2, (root - 400) ** 2, 400), True)
        self.assertIs(meets(root ** 2, (root // 3) ** 2, root - root // 3), True)
        self.assertIs(meets(root ** 2 - 1, (root - 1) ** 2, 1), False)
        self.assertIs(meets(root ** 2 + 1, (root - 1) ** 2, 1), False)
        self.assertIs(meets(root ** 2, (root - 1) ** 2 + 1, 1), False)
        self.assertIs(meets(TOP, TOP, 0), True)
        self.assertIs(meets(TOP, TOP - 1, 0), False)
        self.assertIs(meets(TOP, 1, 10 ** 20 - 1), False)
        self.assertIs(meets(TOP, TOP, TOP), False)
        self.assertIs(meets(0, 0, TOP), False)
        self.assertIs(meets(4 * 10 ** 39, 10 ** 39, 31622776601683793319), False)

    def test_an_ease_somewhat_below_nought(self):
        self.assertIs(meets(4, 9, -1), True)
        self.assertIs(meets(9, 4, -1), False)
        self.assertIs(meets(4, 1, -3), False)


if __name__ == "__main__":
    unittest.main()
