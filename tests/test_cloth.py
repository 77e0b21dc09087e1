import itertools
import random
import unittest

from gradecut import errors
from gradecut.cloth import lay


def cells(x, y, oblong):
    return set(itertools.product(range(x, x + oblong[0]), range(y, y + oblong[1])))


def expected(oblongs, width):
    """Every whole place is tried, row by row, against the cells that are taken."""
    taken, places, length = set(), [], 0
    for oblong in oblongs:
        tried = ((x, y) for y in itertools.count() for x in range(width - oblong[0] + 1))
        x, y = next(one for one in tried if not cells(one[0], one[1], oblong) & taken)
        taken |= cells(x, y, oblong)
        places.append((x, y))
        length = max(length, y + oblong[1])
    return (length, places)


class Case(unittest.TestCase):
    def check(self, oblongs, width, answer=None):
        handed = list(oblongs)
        told = lay(handed, width)
        self.assertEqual(handed, list(oblongs))
        self.assertIs(type(told), tuple)
        self.assertIs(type(told[0]), int)
        self.assertIs(type(told[1]), list)
        for place in told[1]:
            self.assertIs(type(place), tuple)
            self.assertEqual([type(number) for number in place], [int, int])
        if width <= 20:
            self.assertEqual(told, expected(oblongs, width), (oblongs, width))
        if answer is not None:
            self.assertEqual(told, answer)

    def check_refused(self, error, oblongs, width):
        handed = list(oblongs)
        with self.assertRaises(error) as taken:
            lay(handed, width)
        self.assertIs(type(taken.exception), error)
        self.assertEqual(handed, list(oblongs))


class LayTest(Case):
    def test_none_at_all(self):
        self.check([], 1, (0, []))
        self.check([], 100000, (0, []))

    def test_one(self):
        self.check([(3, 4)], 10, (4, [(0, 0)]))
        self.check([(10, 4)], 10, (4, [(0, 0)]))
        self.check([(1, 1)], 1, (1, [(0, 0)]))
        self.check([(100000, 100000)], 100000, (100000, [(0, 0)]))

    def test_beside_one_another(self):
        self.check([(3, 4), (7, 2)], 10, (4, [(0, 0), (3, 0)]))
        self.check([(3, 4), (3, 9), (4, 1)], 10, (9, [(0, 0), (3, 0), (6, 0)]))

    def test_above_one_another(self):
        self.check([(3, 4), (8, 2)], 10, (6, [(0, 0), (0, 4)]))
        self.check([(10, 4), (10, 2), (10, 3)], 10, (9, [(0, 0), (0, 4), (0, 6)]))

    def test_upon_the_lower_of_two(self):
        self.check([(5, 6), (5, 2), (5, 3)], 10, (6, [(0, 0), (5, 0), (5, 2)]))
        self.check([(5, 2), (5, 6), (4, 3)], 10, (6, [(0, 0), (5, 0), (0, 2)]))

    def test_a_later_one_lies_lower_than_one_before_it(self):
        self.check([(3, 4), (8, 2), (7, 3)], 10, (6, [(0, 0), (0, 4), (3, 0)]))
        self.check([(3, 4), (8, 2), (7, 4)], 10, (6, [(0, 0), (0, 4), (3, 0)]))

    def test_under_another(self):
        # The second lies on the first; what is as high as the gap goes under it, what is higher does not.
        self.check([(4, 3), (9, 5), (5, 3)], 10, (8, [(0, 0), (0, 3), (4, 0)]))
        self.check([(4, 3), (9, 5), (5, 4)], 10, (12, [(0, 0), (0, 3), (0, 8)]))
        self.check([(4, 3), (9, 5), (1, 4)], 10, (8, [(0, 0), (0, 3), (9, 0)]))

    def test_into_a_hole_within(self):
        # The third bridges the first two; the fourth goes into the hole between them.
        self.check([(3, 5), (6, 1), (10, 2), (4, 4)], 10, (7, [(0, 0), (3, 0), (0, 5), (3, 1)]))
        self.check([(3, 5), (6, 1), (10, 2), (7, 4)], 10, (7, [(0, 0), (3, 0), (0, 5), (3, 1)]))

    def test_the_least_y_goes_ahead_of_the_least_x(self):
        self.check([(8, 1), (2, 9)], 10, (9, [(0, 0), (8, 0)]))
        self.check([(8, 1), (3, 9)], 10, (10, [(0, 0), (0, 1)]))

    def test_the_length_is_the_greatest_and_not_the_last(self):
        self.check([(2, 9), (2, 1)], 10, (9, [(0, 0), (2, 0)]))

    def test_they_are_not_turned(self):
        self.check([(6, 1), (6, 1)], 10, (2, [(0, 0), (0, 1)]))

    def test_edges_and_corners_may_touch(self):
        self.check([(5, 5), (5, 5), (5, 5), (5, 5)], 10, (10, [(0, 0), (5, 0), (0, 5), (5, 5)]))

    def test_eight(self):
        self.check([(1, 1)] * 8, 3, (3, [(0, 0), (1, 0), (2, 0), (0, 1), (1, 1), (2, 1), (0, 2), (1, 2)]))
        self.check([(100000, 100000)] * 8, 100000, (800000, [(0, 100000 * k) for k in range(8)]))
        self.check([(12500, 7)] * 8, 100000, (7, [(12500 * k, 0) for k in range(8)]))
        self.check([(12501, 7)] * 8, 100000, (14, [(12501 * k, 0) for k in range(7)] + [(0, 7)]))

    def test_every_three_small_ones(self):
        shapes = list(itertools.product((1, 2, 3), (1, 2, 3)))
        for oblongs in itertools.product(shapes, repeat=3):
            self.assertEqual(lay(list(oblongs), 4), expected(oblongs, 4), oblongs)

    def test_many(self):
        source = random.Random(7)
        for turn in range(400):
            width = source.randint(1, 12)
            count = source.randint(0, 8)
            oblongs = [(source.randint(1, width), source.randint(1, 6)) for k in range(count)]
            self.check(oblongs, width)

    def test_many_that_are_a_thousandfold(self):
        source = random.Random(8)
        for turn in range(100):
            oblongs = [(source.randint(1, 7), source.randint(1, 6)) for k in range(8)]
            length, places = expected(oblongs, 10)
            grown = [(1000 * w, 1000 * h) for w, h in oblongs]
            self.assertEqual(lay(grown, 10000), (1000 * length, [(1000 * x, 1000 * y) for x, y in places]))

    def test_a_told_list_belongs_to_the_caller(self):
        oblongs = [(3, 4), (8, 2), (7, 3)]
        told = lay(oblongs, 10)
        told[1].clear()
        self.assertEqual(oblongs, [(3, 4), (8, 2), (7, 3)])
        self.assertEqual(lay(oblongs, 10), (6, [(0, 0), (0, 4), (3, 0)]))


class RefusedTest(Case):
    def test_nine_are_too_many(self):
        self.check_refused(errors.TooMany, [(1, 1)] * 9, 100)
        self.check_refused(errors.TooMany, [(1, 1)] * 20, 100)

    def test_one_that_is_wider_than_the_cloth(self):
        self.check_refused(errors.TooWide, [(11, 1)], 10)
        self.check_refused(errors.TooWide, [(100000, 1)], 99999)
        for k in range(8):
            oblongs = [(10, 3)] * 8
            oblongs[k] = (11, 3)
            self.check_refused(errors.TooWide, oblongs, 10)

    def test_too_many_goes_ahead_of_too_wide(self):
        self.check_refused(errors.TooMany, [(11, 1)] * 9, 10)
        self.check_refused(errors.TooMany, [(1, 1)] * 8 + [(11, 1)], 10)

    def test_high_ones_are_not_refused(self):
        self.check([(1, 11)], 10, (11, [(0, 0)]))
        self.check([(1, 100001)], 10**6, (100001, [(0, 0)]))


if __name__ == "__main__":
    unittest.main()
