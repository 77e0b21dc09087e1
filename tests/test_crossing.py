import itertools
import random
import unittest
from fractions import Fraction

from gradecut.crossing import crossing

OBLONG = [(0, 0), (10, 0), (10, 6), (0, 6)]


def clipped(span, slope, start, least, most):
    """The part of a span of t in which start + t * slope is from least to most; None where there is none."""
    if span is None:
        return None
    if slope == 0:
        return span if least <= start <= most else None
    bounds = sorted([Fraction(least - start, slope), Fraction(most - start, slope)])
    low, high = max(span[0], bounds[0]), min(span[1], bounds[1])
    return (low, high) if low <= high else None


def common_ends(one, two):
    """The two outermost points (maybe the same) that two sides have in common, none where they have none."""
    if two[0] == two[1]:
        one, two = two, one
    (ax, ay), (bx, by) = one
    (cx, cy), (dx, dy) = two
    if two[0] == two[1]:
        return {one[0]} & {two[0]}
    along = ((dx - cx), (dy - cy))
    span = (Fraction(0), Fraction(1))
    slope = (bx - ax) * along[0] + (by - ay) * along[1]
    start = (ax - cx) * along[0] + (ay - cy) * along[1]
    span = clipped(span, slope, start, 0, along[0] ** 2 + along[1] ** 2)
    slope = (by - ay) * along[0] - (bx - ax) * along[1]
    start = (ay - cy) * along[0] - (ax - cx) * along[1]
    span = clipped(span, slope, start, 0, 0)
    return set() if span is None else {(ax + t * (bx - ax), ay + t * (by - ay)) for t in span}


def expected(corners):
    count = len(corners)
    ends = [(k, (k + 1) % count) for k in range(count)]
    sides = [tuple(corners[k] for k in pair) for pair in ends]
    for i in range(count):
        if sides[i][0] == sides[i][1]:
            return (i, i)
        for j in range(i + 1, count):
            shared = {corners[k] for k in set(ends[i]) & set(ends[j])}
            if common_ends(sides[i], sides[j]) - shared:
                return (i, j)
    return None


def saw(count):
    """A closed line of so many places that crosses nowhere: teeth above, one corner far below."""
    return [(10 * k, 5 + 7 * (k % 2)) for k in range(count - 1)] + [(5, -9000)]


def staircase(count):
    """An oblong with corners between on its lower side."""
    return [(k, 0) for k in range(count - 2)] + [(count - 3, 9), (0, 9)]


def random_lines(seed, number, counts, reach):
    source = random.Random(seed)
    for turn in range(number):
        count = source.choice(counts)
        yield [(source.randint(-reach, reach), source.randint(-reach, reach)) for corner in range(count)]


class Case(unittest.TestCase):
    def check(self, corners, answer):
        handed = list(corners)
        told = crossing(handed)
        self.assertEqual(told, answer, corners)
        self.assertEqual(handed, list(corners))
        self.assertEqual(expected(corners), answer, corners)
        if answer is None:
            self.assertIsNone(told)
        else:
            self.assertIs(type(told), tuple)
            self.assertEqual([type(number) for number in told], [int, int])


class NothingCrossesTest(Case):
    def test_every_count_of_places(self):
        for count in range(3, 25):
            self.check(saw(count), None)
            self.check(list(reversed(saw(count))), None)
            if count > 3:
                self.check(staircase(count), None)
                self.check(list(reversed(staircase(count))), None)

    def test_wherever_the_line_begins(self):
        for corners in (OBLONG, saw(24), staircase(11)):
            for k in range(len(corners)):
                self.check(corners[k:] + corners[:k], None)

    def test_corners_on_a_straight_side(self):
        self.check([(0, 0), (5, 0), (10, 0), (5, 8)], None)
        self.check([(0, 0), (10, 0), (5, 8), (-5, 0)], None)
        self.check([(0, 0), (3, 3), (6, 6), (9, 9), (0, 9)], None)

    def test_sides_on_one_line_with_a_gap_between(self):
        self.check([(0, 0), (3, 0), (3, 3), (6, 3), (6, 0), (9, 0), (9, 9), (0, 9)], None)

    def test_sides_that_just_miss(self):
        self.check([(0, 0), (30000, 29999), (30000, 30000), (1, 1)], None)
        self.check([(0, 0), (10, 0), (10, 10), (5, 1), (0, 10)], None)


class CrossesTest(Case):
    def test_sides_that_cross(self):
        self.check([(0, 0), (10, 10), (10, 0), (0, 10)], (0, 2))
        self.check([(0, 0), (10, 0), (0, 10), (10, 10)], (1, 3))
        self.check([(0, 0), (3, 1), (2, -1), (1, 1)], (0, 2))

    def test_a_corner_on_another_side(self):
        self.check([(0, 0), (10, 0), (10, 10), (5, 0), (0, 10)], (0, 2))
        self.check([(5, 0), (0, 10), (0, 0), (10, 0), (10, 10)], (0, 2))
        self.check([(0, 0), (10, 0), (10, 10), (4, 4), (2, 2), (-4, 4), (3, 3), (-9, 3)], (3, 5))

    def test_a_corner_on_another_corner(self):
        self.check([(0, 0), (5, 5), (10, 0), (10, 10), (5, 5), (0, 10)], (0, 3))
        self.check([(5, 5), (0, 0), (10, 0), (5, 5), (10, 10), (0, 10)], (0, 2))

    def test_sides_that_lie_on_one_another(self):
        self.check([(0, 0), (10, 0), (10, 5), (8, 0), (2, 0), (0, 5)], (0, 2))
        self.check([(0, 0), (4, 0), (4, 4), (9, 4), (9, 0), (3, 0), (3, -3), (0, -3)], (0, 4))
        self.check([(0, 0), (4, 0), (6, 4), (9, 4), (9, 0), (4, 0), (3, -3), (0, -3)], (0, 4))

    def test_sides_that_run_back_along_their_neighbour(self):
        self.check([(0, 0), (10, 0), (4, 0), (4, 8)], (0, 1))
        self.check([(0, 0), (10, 0), (-4, 0), (4, 8)], (0, 1))
        self.check([(0, 0), (10, 0), (10, 8), (10, 3)], (1, 2))
        self.check([(0, 0), (10, 0), (10, 8), (0, 8), (0, 12)], (2, 4))
        self.check([(0, 0), (10, 0), (10, 8), (0, 8), (0, -3)], (0, 3))
        self.check([(0, 0), (10, 0), (10, 8), (5, 8), (5, 0)], (0, 3))
        self.check([(0, 0), (0, 10), (8, 10), (0, 4)], (0, 2))
        self.check([(0, 0), (0, 10), (8, 20), (0, 24)], (0, 3))
        self.check([(0, 0), (9, 9), (8, 20), (3, 3)], (0, 2))
        self.check([(0, 0), (3, 3), (8, 20), (9, 9)], (0, 3))

    def test_a_side_whose_ends_are_one_place(self):
        self.check([(0, 0), (0, 0), (10, 0), (10, 10)], (0, 0))
        self.check([(0, 0), (10, 0), (10, 0), (10, 10)], (0, 2))
        self.check([(0, 0), (10, 0), (10, 10), (10, 10)], (1, 3))
        self.check([(0, 0), (10, 0), (10, 10), (0, 0)], (0, 2))
        self.check([(0, 0), (0, 0), (0, 0), (0, 0)], (0, 0))
        self.check([(7, 7), (7, 7), (7, 7)], (0, 0))
        self.check([(0, 0), (9, 0), (9, 9), (4, 0), (4, 0)], (0, 2))

    def test_a_side_that_is_one_place_goes_ahead_of_those_that_it_lies_on(self):
        self.check([(5, 0), (5, 0), (9, 9), (0, 0), (10, 0)], (0, 0))

    def test_the_least_i_goes_first_and_with_it_the_least_j(self):
        self.check([(0, 0), (10, 0), (10, 9), (8, -1), (6, 9), (4, -1), (0, 9)], (0, 2))
        self.check([(0, 0), (0, 9), (10, 9), (10, 5), (-1, 5), (-1, 7), (10, 3)], (0, 3))
        self.check([(9, 3), (5, 9), (5, -9), (2, -9), (2, 9), (1, 0), (9, 1), (12, 1), (12, 0)], (1, 5))
        self.check([(0, 0), (1, 1), (1, 1), (0, 9), (9, 9), (9, 0)], (0, 2))

    def test_only_the_last_sides_cross(self):
        for count in range(5, 25):
            base = [(10 * k, 0) for k in range(count - 3)]
            self.check(base + [(10 * count, 90), (-10, 20), (-10, 120)], (count - 3, count - 1))


class TriangleTest(Case):
    def test_every_triangle_of_a_small_grid(self):
        grid = list(itertools.product(range(4), range(4)))
        for corners in itertools.product(grid, repeat=3):
            self.assertEqual(crossing(list(corners)), expected(corners), corners)

    def test_triangles(self):
        self.check([(0, 0), (4, 0), (0, 3)], None)
        self.check([(0, 0), (0, 3), (4, 0)], None)
        self.check([(0, 0), (1, 0), (2, 0)], (0, 2))
        self.check([(0, 0), (2, 0), (1, 0)], (0, 1))
        self.check([(1, 0), (0, 0), (2, 0)], (0, 1))
        self.check([(1, 0), (2, 0), (0, 0)], (0, 1))
        self.check([(0, 0), (0, 0), (1, 0)], (0, 0))
        self.check([(1, 0), (0, 0), (0, 0)], (0, 2))
        self.check([(0, 0), (1, 0), (0, 0)], (0, 1))

    def test_a_triangle_that_is_nearly_flat(self):
        self.check([(-30000, -30000), (30000, 30000), (29999, 29998)], None)
        self.check([(-30000, -30000), (0, 1), (30000, 30000)], None)
        self.check([(-30000, -30000), (0, 0), (30000, 30000)], (0, 2))


class EveryLineTest(Case):
    def test_every_line_of_four_places_of_a_small_grid(self):
        grid = list(itertools.product(range(3), range(3)))
        for corners in itertools.product(grid, repeat=4):
            self.assertEqual(crossing(list(corners)), expected(corners), corners)

    def test_many_lines_of_few_places(self):
        for corners in random_lines(1, 3000, (5, 6), 3):
            self.assertEqual(crossing(corners), expected(corners), corners)

    def test_many_lines_of_many_places(self):
        for corners in random_lines(2, 300, range(7, 25), 40):
            self.assertEqual(crossing(corners), expected(corners), corners)

    def test_many_great_lines(self):
        for corners in random_lines(3, 500, (3, 4, 5), 30000):
            self.assertEqual(crossing(corners), expected(corners), corners)

    def test_turned_round_and_moved_the_same_lines_cross(self):
        for corners in random_lines(4, 500, (4, 5, 6), 6):
            crosses = crossing(corners) is not None
            self.assertIs(crossing(corners[::-1]) is not None, crosses)
            self.assertIs(crossing(corners[2:] + corners[:2]) is not None, crosses)
            self.assertEqual(crossing([(29000 - y, x - 29000) for x, y in corners]), crossing(corners))


class BoundsTest(Case):
    def test_numbers_at_their_bounds(self):
        low, high = -30000, 30000
        self.check([(low, low), (high, low), (high, high), (low, high)], None)
        self.check([(low, low), (high, high), (high, low), (low, high)], (0, 2))
        self.check([(low, low), (high, high), (high, high - 1), (low, low + 1)], (0, 2))
        self.check([(low, low), (high, high), (high - 1, high), (low, low + 1)], None)
        self.check([(low, low), (high, high), (low, high), (0, 0)], (0, 2))
        self.check([(low, low), (high, high), (low, high), (-1, 0)], None)

    def test_what_lies_somewhat_beyond_is_not_refused(self):
        self.check([(-40000, 0), (40000, 0), (0, 40000)], None)
        self.check(saw(25), None)

    def test_asking_twice_tells_the_same(self):
        corners = [(0, 0), (10, 10), (10, 0), (0, 10)]
        self.assertEqual([crossing(corners), crossing(corners)], [(0, 2), (0, 2)])
        self.assertEqual(corners, [(0, 0), (10, 10), (10, 0), (0, 10)])


if __name__ == "__main__":
    unittest.main()
