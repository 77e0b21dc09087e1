import random
import unittest

from book_case import BAD_SIZES, GREAT, SIZES, BookCase, grown, still
from gradecut.book import Book
from gradecut.cloth import lay
from gradecut.cutting import lay_out
from gradecut.errors import BadSize, Crossed, NoSuch, TooMany, TooWide

# 400 broad and 300 high; 10 broader and 20 higher for a step outward, 30 lower for a step inward.
OBLONG = [(50, -70, 0, 0, 0, 0), (450, -70, 10, 0, 0, 0), (450, 230, 10, 20, 0, -30), (50, 230, 0, 20, 0, -30)]
# From -5 to 100 across and from -20 to 90 up.
LEANED = still((-5, 3), (60, -20), (100, 90))
CROSSED_FROM_THREE = [(0, 0, 0, 0, 0, 0), (100, 0, 0, 0, 0, 0), (100, 300, -10, -100, 0, 0), (0, 300, 0, 0, 0, 0)]
BOW = still((0, 0), (10, 10), (10, 0), (0, 10))


def moved(places, across, up):
    return [(x + across, y + up) for x, y in places]


class LayOutCase(BookCase):
    def setUp(self):
        self.book = Book()
        for corners in (OBLONG, LEANED, CROSSED_FROM_THREE, BOW):
            self.book.add_piece(corners)

    def expected(self, wanted, width, room):
        lines = [[grown(spot, size) for spot in self.book.spots(piece)] for piece, size in wanted]
        spans = [[(min(numbers), max(numbers)) for numbers in zip(*line)] for line in lines]
        oblongs = [tuple(most - least + 2 * room for least, most in span) for span in spans]
        length, places = lay(oblongs, width)
        laid = []
        for line, span, (x, y) in zip(lines, spans, places):
            laid.append(moved(line, x + room - span[0][0], y + room - span[1][0]))
        return (length, laid)

    def check(self, wanted, width, room, answer=None):
        handed = list(wanted)
        told = self.ask_in_any_size(lay_out, self.book, handed, width, room)
        self.assertEqual(handed, list(wanted))
        self.assertEqual(told, self.expected(wanted, width, room))
        if answer is not None:
            self.assertEqual(told, answer)
        self.assertEqual([type(told), type(told[0]), type(told[1])], [tuple, int, list])
        for places in told[1]:
            self.assertIs(type(places), list)
            self.assertEqual({type(place) for place in places}, {tuple})

    def check_refusal(self, error, wanted, width, room=0):
        handed = list(wanted)
        self.check_asked_refused(error, lay_out, self.book, handed, width, room)
        self.assertEqual(handed, list(wanted))


class LayOutTest(LayOutCase):
    def test_nothing_wanted(self):
        self.check([], 1, 0, (0, []))
        self.check([], 100000, 1000, (0, []))
        self.assertEqual(lay_out(Book(), [], 5), (0, []))

    def test_one_piece(self):
        self.check([(0, 0)], 1000, 0, (300, [[(0, 0), (400, 0), (400, 300), (0, 300)]]))
        self.check([(1, 0)], 1000, 0, (110, [[(0, 23), (65, 0), (105, 110)]]))

    def test_with_room(self):
        self.check([(0, 0)], 1000, 7, (314, [[(7, 7), (407, 7), (407, 307), (7, 307)]]))
        self.check([(1, 0)], 5000, 1000, (2110, [[(1000, 1023), (1065, 1000), (1105, 1110)]]))

    def test_the_room_left_out(self):
        self.assertEqual(lay_out(self.book, [(1, 0), (1, 0)], 210), lay_out(self.book, [(1, 0), (1, 0)], 210, 0))
        self.assertEqual(lay_out(book=self.book, wanted=[(1, 0)], width=200, room=5)[0], 120)

    def test_one_piece_in_several_sizes(self):
        self.check([(0, -1), (0, 0), (0, 1)], 2000, 0, (320, [
            [(0, 0), (400, 0), (400, 270), (0, 270)],
            [(400, 0), (800, 0), (800, 300), (400, 300)],
            [(800, 0), (1210, 0), (1210, 320), (800, 320)],
        ]))
        for size in SIZES:
            self.check([(0, size), (1, size), (0, -size)], 1500, 3)

    def test_one_above_the_other(self):
        self.check([(0, 0), (0, 2)], 500, 10, (300 + 340 + 40, [
            [(10, 10), (410, 10), (410, 310), (10, 310)],
            [(10, 330), (430, 330), (430, 670), (10, 670)],
        ]))

    def test_one_twice(self):
        self.check([(1, 0), (1, 0)], 210, 0, (110, [
            [(0, 23), (65, 0), (105, 110)], [(105, 23), (170, 0), (210, 110)],
        ]))

    def test_the_order_is_that_of_the_wanted(self):
        self.check([(1, 0), (0, 0)], 505, 0, (300, [
            [(0, 23), (65, 0), (105, 110)], [(105, 0), (505, 0), (505, 300), (105, 300)],
        ]))
        self.check([(0, 0), (1, 0)], 505, 0, (300, [
            [(0, 0), (400, 0), (400, 300), (0, 300)], [(400, 23), (465, 0), (505, 110)],
        ]))

    def test_the_corners_are_all_moved_by_one_vector(self):
        for size in SIZES:
            length, laid = lay_out(self.book, [(0, size), (1, size)], 700, 12)
            for piece in range(2):
                corners = self.book.corners(piece, size)
                vectors = {(x - u, y - v) for (x, y), (u, v) in zip(laid[piece], corners)}
                self.assertEqual(len(vectors), 1)

    def test_a_piece_that_crosses_itself_in_other_sizes(self):
        for size in range(-6, 3):
            self.check([(2, size)], 300, 1)

    def test_cloth_just_wide_enough(self):
        self.check([(0, 0)], 400, 0)
        self.check([(0, 0)], 402, 1)
        self.check([(0, 6), (1, 0)], 460, 0)
        self.check([(0, 0)], 2400, 1000)
        for wanted, width, room in (([(0, 0)], 399, 0), ([(0, 0)], 401, 1), ([(0, 6), (1, 0)], 459, 0),
                                    ([(0, 0)], 2399, 1000), ([(1, 0), (0, 0)], 399, 0), ([(1, 0)], 1, 0)):
            self.check_refusal(TooWide, wanted, width, room)

    def test_the_farthest_piece(self):
        number = self.book.add_piece(
            [(-20000, -20000, -200, -200, 0, 0), (20000, 20000, 200, 200, 0, 0), (-20000, 20000, -200, 200, 0, 0)]
        )
        self.check([(number, 6)], 42400, 0, (42400, [[(0, 0), (42400, 42400), (0, 42400)]]))
        self.check([(number, 6)], 44400, 1000)
        self.check_refusal(TooWide, [(number, 6)], 42399)

    def test_eight(self):
        self.check([(1, 0)] * 8, 300, 0)
        self.check([(k % 2, k - 4) for k in range(8)], 1000, 5)

    def test_many_ways(self):
        source = random.Random(67)
        for trial in range(60):
            wanted = [(source.randrange(2), source.randrange(-6, 7)) for number in range(source.randrange(9))]
            self.check(wanted, source.randrange(600, 2000), source.choice((0, 1, 20)))

    def test_the_size_at_hand_has_no_bearing(self):
        answer = lay_out(self.book, [(0, 0)], 1000)
        self.book.let_out(5)
        self.assertEqual(lay_out(self.book, [(0, 0)], 1000), answer)

    def test_what_is_told_belongs_to_the_caller(self):
        wanted = [(0, 0), (1, 0)]
        answer = lay_out(self.book, wanted, 1000)
        told = lay_out(self.book, wanted, 1000)
        told[1][0].clear()
        told[1].append([])
        self.assertEqual(lay_out(self.book, wanted, 1000), answer)
        wanted.clear()
        self.assertEqual(lay_out(self.book, [(0, 0), (1, 0)], 1000), answer)


class RefusalTest(LayOutCase):
    def test_nine(self):
        for count in (9, 10, 50):
            self.check_refusal(TooMany, [(1, 0)] * count, 1000)

    def test_too_many_goes_ahead_of_all(self):
        for one in ((9, 0), (-1, 0), (0, 7), (3, 0), (0, 0), (9, 9)):
            self.check_refusal(TooMany, [one] * 9, 1)
            self.check_refusal(TooMany, [(1, 0)] * 8 + [one], 1)

    def test_a_piece_that_is_not_there(self):
        for piece in (-1, -4, 4, 5, GREAT, -GREAT):
            self.check_refusal(NoSuch, [(piece, 0)], 1000)
            self.check_refusal(NoSuch, [(0, 0), (piece, 0)], 1000)
            self.check_refusal(NoSuch, [(piece, 0), (0, 0)], 1000)
        self.check_asked_refused(NoSuch, lay_out, Book(), [(0, 0)], 1000)

    def test_no_such_goes_ahead_of_bad_size(self):
        for size in BAD_SIZES:
            self.check_refusal(NoSuch, [(4, size)], 1000)
            self.check_refusal(NoSuch, [(0, size), (4, 0)], 1000)
            self.check_refusal(NoSuch, [(4, 0), (0, size)], 1)

    def test_no_such_goes_ahead_of_crossed_and_too_wide(self):
        self.check_refusal(NoSuch, [(3, 0), (4, 0)], 1000)
        self.check_refusal(NoSuch, [(0, 0), (-1, 0)], 1)

    def test_sizes_beyond(self):
        for size in BAD_SIZES:
            self.check_refusal(BadSize, [(0, size)], 1000)
            self.check_refusal(BadSize, [(0, 0), (1, size)], 1000)
            self.check_refusal(BadSize, [(1, size), (0, 0)], 1000)

    def test_bad_size_goes_ahead_of_crossed_and_too_wide(self):
        for size in BAD_SIZES:
            self.check_refusal(BadSize, [(3, size)], 1000)
            self.check_refusal(BadSize, [(3, 0), (1, size)], 1000)
            self.check_refusal(BadSize, [(0, 0), (1, size)], 1)

    def test_crossed(self):
        self.check_refusal(Crossed, [(3, 0)], 1000)
        self.check_refusal(Crossed, [(0, 0), (3, 0)], 1000)
        for size in range(3, 7):
            self.check_refusal(Crossed, [(2, 0), (2, size)], 1000)

    def test_crossed_goes_ahead_of_too_wide(self):
        self.check_refusal(Crossed, [(0, 0), (3, 0)], 1)
        self.check_refusal(Crossed, [(3, 0)], 1)
        self.check_refusal(TooWide, [(0, 0), (1, 0)], 1)


if __name__ == "__main__":
    unittest.main()
