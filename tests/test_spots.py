import unittest

from gradecut import errors
from gradecut.spots import LEAST, MOST, check_size, place

SPOT = (1000, -500, 7, -3, -11, 20)
PLACES = {
    -6: (934, -380),
    -5: (945, -400),
    -4: (956, -420),
    -3: (967, -440),
    -2: (978, -460),
    -1: (989, -480),
    0: (1000, -500),
    1: (1007, -503),
    2: (1014, -506),
    3: (1021, -509),
    4: (1028, -512),
    5: (1035, -515),
    6: (1042, -518),
}
BEYOND = (7, -7, 8, -8, 13, -13, 100, -100, 10 ** 18, -10 ** 18, 10 ** 5000, -10 ** 5000)

OTHER_CLASSES = (
    "BadPiece", "BadMove", "BadSeam", "NoSuch", "Full", "NoLength", "Crossed",
    "TooMany", "NotAlong", "SharedCorner", "TooWide", "BadText",
)


class SizesTest(unittest.TestCase):
    def test_least_and_most(self):
        self.assertEqual((LEAST, MOST), (-6, 6))
        self.assertEqual((type(LEAST), type(MOST)), (int, int))


class PlaceTest(unittest.TestCase):
    def test_every_size(self):
        for size in range(-6, 7):
            with self.subTest(size=size):
                self.assertEqual(place(SPOT, size), PLACES[size])

    def test_the_examples_of_point_3(self):
        x, y, gx, gy, lx, ly = (31, 47, 2, 5, -13, 17)
        spot = (x, y, gx, gy, lx, ly)
        self.assertEqual(place(spot, 0), (x, y))
        self.assertEqual(place(spot, 2), (x + gx + gx, y + gy + gy))
        self.assertEqual(place(spot, -2), (x + lx + lx, y + ly + ly))

    def test_each_size_is_one_step_outward_of_the_one_within(self):
        for spot in (SPOT, (0, 0, 200, -200, -200, 200), (-20000, 20000, -1, 1, 1, -1)):
            for size in range(1, 7):
                within, outward = place(spot, size - 1), place(spot, size)
                self.assertEqual(outward, (within[0] + spot[2], within[1] + spot[3]))
                within, outward = place(spot, 1 - size), place(spot, -size)
                self.assertEqual(outward, (within[0] + spot[4], within[1] + spot[5]))

    def test_each_number_of_a_spot_has_its_own_part(self):
        self.assertEqual(place((1, 0, 0, 0, 0, 0), 3), (1, 0))
        self.assertEqual(place((0, 1, 0, 0, 0, 0), -3), (0, 1))
        self.assertEqual([place((0, 0, 1, 0, 0, 0), s) for s in (-3, 0, 3)], [(0, 0), (0, 0), (3, 0)])
        self.assertEqual([place((0, 0, 0, 1, 0, 0), s) for s in (-3, 0, 3)], [(0, 0), (0, 0), (0, 3)])
        self.assertEqual([place((0, 0, 0, 0, 1, 0), s) for s in (-3, 0, 3)], [(3, 0), (0, 0), (0, 0)])
        self.assertEqual([place((0, 0, 0, 0, 0, 1), s) for s in (-3, 0, 3)], [(0, 3), (0, 0), (0, 0)])

    def test_numbers_beyond_the_bounds_of_a_piece_are_taken(self):
        self.assertEqual(place((30000, -30000, 1000, -1000, 2000, -2000), 6), (36000, -36000))
        self.assertEqual(place((30000, -30000, 1000, -1000, 2000, -2000), -6), (42000, -42000))

    def test_a_place_is_a_tuple_of_two_whole_numbers(self):
        for size in range(-6, 7):
            told = place(SPOT, size)
            self.assertIs(type(told), tuple)
            self.assertEqual([type(number) for number in told], [int, int])

    def test_asking_twice_tells_the_same(self):
        self.assertEqual([place(SPOT, s) for s in range(-6, 7)], [place(SPOT, s) for s in range(-6, 7)])

    def test_a_size_beyond_is_refused(self):
        for size in BEYOND:
            with self.assertRaises(errors.BadSize) as taken:
                place(SPOT, size)
            self.assertIs(type(taken.exception), errors.BadSize)
            self.assertIsInstance(taken.exception, errors.GradeError)
            self.assertIsInstance(taken.exception, ValueError)
            for name in OTHER_CLASSES:
                self.assertNotIsInstance(taken.exception, getattr(errors, name))

    def test_a_size_beyond_is_refused_for_a_spot_that_never_moves_too(self):
        for size in BEYOND:
            self.assertRaises(errors.BadSize, place, (0, 0, 0, 0, 0, 0), size)


class CheckSizeTest(unittest.TestCase):
    def test_each_size_is_taken(self):
        for size in range(-6, 7):
            self.assertIsNone(check_size(size))

    def test_a_size_beyond_is_refused(self):
        for size in BEYOND:
            self.assertRaises(errors.BadSize, check_size, size)


if __name__ == "__main__":
    unittest.main()
