import math
import random
import unittest
from fractions import Fraction

from gradecut import errors
from gradecut.crossing import crossing
from gradecut.hems import outline

OBLONG = [(0, 0), (30, 0), (30, 20), (0, 20)]
WITH_CORNERS_BETWEEN = [(0, 0), (10, 0), (25, 0), (30, 0), (30, 7), (30, 20), (12, 20), (0, 20), (0, 19), (0, 1)]
NOTCHED = [(0, 0), (40, 0), (40, 30), (20, 10), (0, 30)]
LEANED = [(-3, 5), (100, -41), (77, 63), (50, 50), (12, 90)]
RUNNING_ON_LEANED = [(0, 0), (30, 10), (60, 20), (90, 30), (60, 70), (30, 110), (-10, 80)]
CROSSED = (
    [(0, 0), (10, 10), (10, 0), (0, 10)],
    [(0, 0), (10, 0), (10, 10), (5, 0), (0, 10)],
    [(0, 0), (10, 0), (10, 0), (10, 10)],
    [(0, 0), (10, 0), (4, 0), (4, 8)],
    [(0, 0), (1, 0), (2, 0)],
    [(5, 5), (5, 5), (5, 5)],
)


def whole(places):
    return [((x, 1), (y, 1)) for x, y in places]


def inside(point, corners):
    """Whether a point beside the sides lies within the line, by counting the sides above it."""
    above = 0
    for (ax, ay), (bx, by) in zip(corners, corners[1:] + corners[:1]):
        if (ax <= point[0]) != (bx <= point[0]):
            height = ay + Fraction(by - ay) * (point[0] - ax) / (bx - ax)
            above += height > point[1]
    return above % 2 == 1


def outward_vector(corners, k):
    """The vector of point 26, its way told by a point just beside the middle of the side."""
    (ax, ay), (bx, by) = corners[k], corners[(k + 1) % len(corners)]
    divisor = math.gcd(bx - ax, by - ay)
    p, q = (bx - ax) // divisor, (by - ay) // divisor
    root = math.isqrt(1000000 * (p * p + q * q))
    tiny = Fraction(1, 10 ** 14)
    # Off the middle, so that no corner stands straight above the point.
    middle = (ax + (bx - ax) * Fraction(499979, 1000003), ay + (by - ay) * Fraction(499979, 1000003))
    ways = [(q, -p), (-q, p)]
    outer = [way for way in ways if not inside((middle[0] + tiny * way[0], middle[1] + tiny * way[1]), corners)]
    assert len(outer) == 1, (corners, k)
    return [Fraction(1000 * number, root) for number in outer[0]]


def expected(corners, breadth):
    told = []
    for k, (x, y) in enumerate(corners):
        before = [breadth * number for number in outward_vector(corners, (k - 1) % len(corners))]
        after = [breadth * number for number in outward_vector(corners, k)]
        came = (x - corners[k - 1][0], y - corners[k - 1][1])
        goes = (corners[(k + 1) % len(corners)][0] - x, corners[(k + 1) % len(corners)][1] - y)
        turn = came[0] * goes[1] - came[1] * goes[0]
        if turn == 0:
            point = (x + after[0], y + after[1])
        else:
            # From corner + before along the way it came, so far that it stands on the other hem line.
            gap = (after[0] - before[0], after[1] - before[1])
            t = Fraction(gap[0] * goes[1] - gap[1] * goes[0]) / turn
            point = (x + before[0] + t * came[0], y + before[1] + t * came[1])
        told.append(tuple((Fraction(n).numerator, Fraction(n).denominator) for n in point))
    return told


def random_stars(seed, number, reach):
    """Lines that don't cross themselves, by places in the order of their way round a middle."""
    source = random.Random(seed)
    while number:
        count = source.randint(3, 24)
        places = [(source.randint(-reach, reach), source.randint(-reach, reach)) for k in range(count)]
        corners = sorted(places, key=lambda one: math.atan2(one[1] - 0.3, one[0] - 0.2))
        if crossing(corners) is None:
            number -= 1
            yield corners


class Case(unittest.TestCase):
    def check_form(self, told):
        self.assertIs(type(told), list)
        for corner in told:
            self.assertIs(type(corner), tuple)
            self.assertEqual(len(corner), 2)
            for fraction in corner:
                self.assertIs(type(fraction), tuple)
                self.assertEqual([type(number) for number in fraction], [int, int])
                self.assertGreaterEqual(fraction[1], 1)
                self.assertEqual(math.gcd(*fraction), 1)

    def check(self, corners, breadth):
        handed = list(corners)
        told = outline(handed, breadth)
        self.check_form(told)
        self.assertEqual(told, expected(corners, breadth), (corners, breadth))
        self.assertEqual(handed, corners)
        self.assertIsNot(told, handed)


class OblongTest(Case):
    def test_an_oblong(self):
        self.assertEqual(outline(OBLONG, 1), whole([(-1, -1), (31, -1), (31, 21), (-1, 21)]))
        self.assertEqual(outline(OBLONG, 1000), whole([(-1000, -1000), (1030, -1000), (1030, 1020), (-1000, 1020)]))

    def test_the_other_way_round(self):
        self.assertEqual(outline(OBLONG[::-1], 1), whole([(-1, 21), (31, 21), (31, -1), (-1, -1)]))

    def test_a_breadth_of_nought_tells_the_corners(self):
        for corners in (OBLONG, OBLONG[::-1], WITH_CORNERS_BETWEEN, NOTCHED, LEANED, RUNNING_ON_LEANED):
            self.assertEqual(outline(corners, 0), whole(corners))

    def test_corners_between_on_its_sides(self):
        hem = [(-5, -5), (10, -5), (25, -5), (35, -5), (35, 7), (35, 25), (12, 25), (-5, 25), (-5, 19), (-5, 1)]
        self.assertEqual(outline(WITH_CORNERS_BETWEEN, 5), whole(hem))
        self.assertEqual(outline(WITH_CORNERS_BETWEEN[::-1], 5), whole(hem[::-1]))

    def test_a_corner_that_falls_on_nought(self):
        self.assertEqual(outline([(3, 3), (9, 3), (9, 9), (3, 9)], 3)[0], ((0, 1), (0, 1)))
        self.assertEqual(outline([(-9, -9), (-9, -3), (-3, -3), (-3, -9)], 3)[2], ((0, 1), (0, 1)))

    def test_wherever_it_begins(self):
        for corners in (OBLONG, WITH_CORNERS_BETWEEN, LEANED):
            told = outline(corners, 7)
            for k in range(len(corners)):
                self.assertEqual(outline(corners[k:] + corners[:k], 7), told[k:] + told[:k])


class LeanedTest(Case):
    def test_a_triangle_with_a_root_that_is_not_exact(self):
        # The greatest r with r * r <= 2000000 is 1414.
        triangle = [(0, 0), (10, 0), (0, 10)]
        hem = [((-1, 1), (-1, 1)), ((8777, 707), (-1, 1)), ((-1, 1), (8777, 707))]
        self.assertEqual(outline(triangle, 1), hem)
        self.assertEqual(outline(triangle[::-1], 1), hem[::-1])

    def test_a_side_with_an_exact_root(self):
        # Direction (-4, 3), n = 25, r = 5000: the hem line is 4 / 5 up and 3 / 5 across.
        self.assertEqual(
            outline([(0, 0), (8, 0), (0, 6)], 1), [((-1, 1), (-1, 1)), ((11, 1), (-1, 1)), ((-1, 1), (8, 1))]
        )

    def test_a_notch_that_points_inward(self):
        # At the notch the hem lines x + y = 30 and y = x - 10, each moved upward by 2000 * 3 / 1414.
        self.assertEqual(outline(NOTCHED, 3)[3], ((20, 1), (10 * 707 + 3000, 707)))

    def test_a_side_that_runs_straight_on(self):
        # Direction (3, 1), n = 10, r = 3162: moved by 1000 * 6 / 3162 times (1, -3).
        told = outline(RUNNING_ON_LEANED, 6)
        self.assertEqual(told[1], ((30 * 527 + 1000, 527), (10 * 527 - 3000, 527)))
        self.assertEqual(told[2], ((60 * 527 + 1000, 527), (20 * 527 - 3000, 527)))

    def test_straight_on_through_corner_nought(self):
        corners = RUNNING_ON_LEANED[1:] + RUNNING_ON_LEANED[:1]
        self.assertEqual(outline(corners, 6)[0], ((30 * 527 + 1000, 527), (10 * 527 - 3000, 527)))
        self.check(corners, 6)
        self.check(RUNNING_ON_LEANED[2:] + RUNNING_ON_LEANED[:2], 6)

    def test_the_hem_is_at_least_the_breadth_away_and_hardly_more(self):
        for corners in (NOTCHED, LEANED, RUNNING_ON_LEANED):
            told = outline(corners, 50)
            for k, (x, y) in enumerate(corners):
                end = corners[(k + 1) % len(corners)]
                p, q = end[0] - x, end[1] - y
                a, c = Fraction(*told[k][0]), Fraction(*told[k][1])
                squared = ((a - x) * q - (c - y) * p) ** 2 / Fraction(p * p + q * q)
                self.assertGreaterEqual(squared, 50 ** 2)
                self.assertLessEqual(squared, (50 + Fraction(50, 999)) ** 2)

    def test_known_lines_with_many_breadths(self):
        for corners in (OBLONG, WITH_CORNERS_BETWEEN, NOTCHED, LEANED, RUNNING_ON_LEANED):
            for breadth in (0, 1, 2, 7, 100, 999, 1000):
                self.check(corners, breadth)
                self.check(corners[::-1], breadth)

    def test_many_small_lines(self):
        for corners in random_stars(5, 150, 12):
            self.check(corners, 1)
            self.check(corners[::-1], 1000)

    def test_many_great_lines(self):
        for corners in random_stars(6, 40, 30000):
            self.check(corners, 333)
            self.check(corners[::-1], 1)

    def test_numbers_at_their_bounds(self):
        low, high = -30000, 30000
        self.assertEqual(
            outline([(low, low), (high, low), (high, high), (low, high)], 1000),
            whole([(-31000, -31000), (31000, -31000), (31000, 31000), (-31000, 31000)]),
        )
        self.check([(low, low), (high, high), (high - 1, high)], 1000)
        self.check([(low, low), (high, high - 1), (high, high)], 1000)

    def test_the_least_lines_there_are(self):
        for corners in ([(0, 0), (1, 0), (0, 1)], [(5, 5), (6, 6), (6, 7)], [(-2, -1), (1, 1), (-1, 0)]):
            self.check(corners, 1)
            self.check(corners[::-1], 1)

    def test_the_hem_may_cross_itself(self):
        self.check([(0, 0), (40, 0), (40, 30), (21, 30), (21, 5), (19, 5), (19, 30), (0, 30)], 10)

    def test_what_lies_somewhat_beyond_is_not_refused(self):
        self.assertEqual(outline(OBLONG, 1001)[0], ((-1001, 1), (-1001, 1)))
        self.assertEqual(outline([(0, 0), (40000, 0), (40000, 9), (0, 9)], 1)[1], ((40001, 1), (-1, 1)))


class CrossedTest(Case):
    def test_a_line_that_crosses_itself_is_refused(self):
        for corners in CROSSED:
            for breadth in (0, 1, 1000):
                handed = list(corners)
                with self.assertRaises(errors.Crossed) as taken:
                    outline(handed, breadth)
                self.assertIs(type(taken.exception), errors.Crossed)
                self.assertEqual(handed, corners)


class OwnershipTest(Case):
    def test_a_told_list_belongs_to_the_caller(self):
        corners = list(LEANED)
        told = outline(corners, 4)
        kept = list(told)
        told.clear()
        self.assertEqual(corners, LEANED)
        self.assertEqual(outline(corners, 4), kept)


if __name__ == "__main__":
    unittest.main()
