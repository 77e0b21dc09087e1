import random
import unittest

from gradecut.text import write
from text_case import EMPTY, SAMPLE, TextCase, greatest_book, rings

SPOTS = ("corner", "mark")
LONG = ("9" * 20, "9" * 4300, "9" * 5000, "1" + "0" * 190000)


def text_of(*rows):
    return "".join(f"{row}\n" for row in rows)


def piece_rows(corners=3, marks=0):
    return ["piece"] + ["corner 1 2 3 4 5 6", *["mark 1 2 3 4 5 6"] * marks] + ["corner 1 2 3 4 5 6"] * (corners - 1)


def book_text(pieces, seams=(), size="0"):
    return text_of(f"gradecut {size}", *[row for rows in pieces for row in rows], *seams, "end")


def sample_rows():
    return SAMPLE.splitlines()


def each_number():
    """For each number of the sample: its row, its place in the row, and how it is written."""
    for at, row in enumerate(sample_rows()):
        for place, word in enumerate(row.split(" ")):
            if word.lstrip("-").isdigit():
                yield at, place, word


def with_word(at, place, word):
    rows = sample_rows()
    words = rows[at].split(" ")
    words[place] = word
    rows[at] = " ".join(words)
    return text_of(*rows)


class ShapeTest(TextCase):
    def test_what_is_read(self):
        self.check_read(EMPTY)
        self.check_read(SAMPLE)
        self.check_read(write(rings()))

    def test_no_text_and_pieces_of_one(self):
        for text in ("", "\n", "\n\n", " ", "end", "end\n", "gradecut", "gradecut\n", "gradecut 0", "gradecut 0\n",
                     "gradecut\nend\n", "gradecut \nend\n", "gradecut 0\nend", "piece\nend\n", "gradecut 0\n\nend\n"):
            self.check_bad(text)

    def test_every_text_that_breaks_off(self):
        for length in range(len(SAMPLE)):
            self.check_bad(SAMPLE[:length])

    def test_a_missing_last_line_feed(self):
        for text in (EMPTY, SAMPLE):
            self.check_bad(text[:-1])

    def test_a_missing_end(self):
        for text in (EMPTY, SAMPLE):
            self.check_bad(text[:-4])

    def test_what_stands_behind_the_end(self):
        for behind in ("\n", " ", "end\n", "end", "piece\n", "seam 0 0 0 1 straight 0\n", "pair 0 0\n", EMPTY, " \n"):
            self.check_bad(EMPTY + behind)
            self.check_bad(SAMPLE + behind)

    def test_what_stands_ahead_of_the_text(self):
        for ahead in ("\n", " ", "end\n", "piece\n", "gradecut 0\n", EMPTY):
            self.check_bad(ahead + EMPTY)
            self.check_bad(ahead + SAMPLE)

    def test_an_empty_row(self):
        rows = sample_rows()
        for at in range(len(rows) + 1):
            self.check_bad(text_of(*rows[:at], "", *rows[at:]))
            self.check_bad(text_of(*rows[:at], " ", *rows[at:]))

    def test_blanks_at_the_ends_of_a_row(self):
        rows = sample_rows()
        for at, row in enumerate(rows):
            for changed in (" " + row, row + " ", "  " + row, row + "  ", " " + row + " "):
                self.check_bad(text_of(*rows[:at], changed, *rows[at + 1:]))

    def test_more_than_one_blank(self):
        for at, sign in enumerate(SAMPLE):
            if sign == " ":
                self.check_bad(SAMPLE[:at] + " " + SAMPLE[at:])
                self.check_bad(SAMPLE[:at] + "   " + SAMPLE[at:])

    def test_a_missing_blank_or_line_feed(self):
        for at, sign in enumerate(SAMPLE):
            if sign in " \n":
                self.check_bad(SAMPLE[:at] + SAMPLE[at + 1:])
                self.check_bad(SAMPLE[:at] + "\n "[sign == "\n"] + SAMPLE[at + 1:])

    def test_words_written_otherwise(self):
        for at, row in enumerate(sample_rows()):
            for place, word in enumerate(row.split(" ")):
                if word.isalpha():
                    others = (
                        word.upper(), word.capitalize(), word + "s", word[:-1], "x", "", "0", "-", "ends", "piece",
                        "corner", "mark", "seam", "pair", "gradecut", "end", "Turned", "straightened", "True", "False",
                    )
                    for other in others:
                        if other != word:
                            self.check_bad(with_word(at, place, other))

    def test_too_few_and_too_many_in_a_row(self):
        rows = sample_rows()
        for at, row in enumerate(rows):
            words = row.split(" ")
            for changed in (row + " 0", row + " 1 2", row + " " + row, row + " turned", " ".join(words + words[1:])):
                if changed != row:
                    self.check_bad(text_of(*rows[:at], changed, *rows[at + 1:]))
            for place in range(len(words)):
                self.check_bad(text_of(*rows[:at], " ".join(words[:place] + words[place + 1:]), *rows[at + 1:]))

    def test_rows_left_out_twice_and_in_another_order(self):
        rows = sample_rows()
        good = 0
        for at, row in enumerate(rows):
            good += self.check_either(text_of(*rows[:at], *rows[at + 1:]))
            good += self.check_either(text_of(*rows[:at], row, *rows[at:]))
            for other in range(at):
                swapped = list(rows)
                swapped[at], swapped[other] = rows[other], row
                good += self.check_either(text_of(*swapped))
                moved = rows[:at] + rows[at + 1:]
                moved.insert(other, row)
                good += self.check_either(text_of(*moved))
        # A corner more, a mark less or seams in another order make the text of another book.
        self.assertGreater(good, 20)

    def test_rows_in_a_wrong_order(self):
        head, piece, seam = "gradecut 0", piece_rows(3, 1), ["seam 0 0 0 1 straight 0"]
        self.check_read(text_of(head, *piece, *seam, "end"))
        self.check_bad(text_of(head, *seam, *piece, "end"))
        self.check_bad(text_of(*piece, head, *seam, "end"))
        self.check_bad(text_of(head, *piece, "end", *seam))
        self.check_bad(text_of(head, *piece, *seam, *piece, "end"))
        self.check_bad(text_of(head, "corner 1 2 3 4 5 6", *piece, "end"))
        self.check_bad(text_of(head, "mark 1 2 3 4 5 6", *piece, "end"))
        self.check_bad(text_of(head, "piece", "mark 1 2 3 4 5 6", *piece[1:], "end"))
        self.check_bad(text_of(head, *piece, "pair 0 0", *seam, "end"))
        self.check_bad(text_of(head, "pair 0 0", "end"))
        self.check_bad(text_of(head, head, *piece, "end"))
        self.check_bad(text_of(head, *piece, *seam, "corner 1 2 3 4 5 6", "end"))
        self.check_bad(text_of(head, *piece, *seam, "mark 1 2 3 4 5 6", "end"))

    def test_signs_that_are_no_line_feeds(self):
        for sign in ("\r\n", "\r", "\t", "\v", "\f", "\u2028"):
            self.check_bad(SAMPLE.replace("\n", sign))
            self.check_bad(SAMPLE.replace("\n", sign, 1))
        self.check_bad(SAMPLE.replace(" ", "\t"))


class NumberTest(TextCase):
    def test_needless_noughts_and_signs(self):
        for at, place, word in each_number():
            digits = word.lstrip("-")
            others = ["0" + word, "00" + word, "+" + word, "-0" + digits, "+0" + digits, word + ".0", word + "e0",
                      "0x" + word, "--" + digits, "- " + digits, digits + "-", "_" + word, word + "_", word + "L", "-"]
            if word == "0":
                others += ["-0", "+0", "00", "000", "-00", "0_0", ""]
            if len(digits) > 1:
                others += [word[:-1] + "_" + word[-1], word[:-1] + "," + word[-1], word[:-1] + " " + word[-1]]
            for other in others:
                self.check_bad(with_word(at, place, other))

    def test_figures_of_another_script(self):
        for at, place, word in each_number():
            self.check_bad(with_word(at, place, word.translate({ord(str(k)): chr(0x0660 + k) for k in range(10)})))

    def test_numbers_of_many_figures(self):
        for at, place, word in each_number():
            for long in LONG[:3]:
                self.check_bad(with_word(at, place, long))
                self.check_bad(with_word(at, place, "-" + long))
                self.check_bad(with_word(at, place, "0" * len(long) + word.lstrip("-")))

    def test_a_number_that_fills_the_text(self):
        for place in ("gradecut {}\nend\n", "gradecut 0\npiece\ncorner {} 0 0 0 0 0\nend\n", "gradecut 0\n{}\nend\n"):
            self.check_bad(place.format(LONG[3]))
            self.check_bad(place.format("-" + LONG[3]))

    def test_bounds_of_spots(self):
        for at, place, word in each_number():
            if sample_rows()[at].startswith(SPOTS):
                bound = 20000 if place <= 2 else 200
                for number in (bound, -bound, bound - 1, 0):
                    self.check_read(with_word(at, place, str(number)))
                for number in (bound + 1, -bound - 1, bound * 10, -bound * 10, 10 ** 6, -10 ** 6, 10 ** 30):
                    self.check_bad(with_word(at, place, str(number)))

    def test_bounds_of_the_size(self):
        for size in range(-6, 7):
            self.assertEqual(self.check_read(book_text([], size=str(size))).size, size)
        for size in (-7, 7, -10, 10, 13, -60, 99999, -99999):
            self.check_bad(book_text([], size=str(size)))

    def test_bounds_of_the_ease(self):
        for ease in (0, 1, 9, 399, 400):
            book = self.check_read(book_text([piece_rows()], [f"seam 0 0 0 1 straight {ease}"]))
            self.assertEqual(book.seam(0)[3], ease)
        for ease in (-1, 401, -400, 999, 4000):
            self.check_bad(book_text([piece_rows()], [f"seam 0 0 0 1 straight {ease}"]))


class CountTest(TextCase):
    def test_corners(self):
        for count in range(3, 25):
            self.assertEqual(len(self.check_read(book_text([piece_rows(count)])).spots(0)), count)
        for count in (1, 2, 25, 26, 100):
            self.check_bad(book_text([piece_rows(count)]))
            self.check_bad(book_text([piece_rows(), piece_rows(count), piece_rows()]))
        self.check_bad(book_text([["piece"]]))
        self.check_bad(book_text([["piece"], piece_rows()]))

    def test_marks(self):
        for count in range(5):
            self.assertEqual(len(self.check_read(book_text([piece_rows(3, count)])).mark_spots(0, 0)), count)
        for count in (5, 6, 50):
            self.check_bad(book_text([piece_rows(3, count)]))

    def test_pieces(self):
        for count in range(11):
            self.assertEqual(self.check_read(book_text([piece_rows()] * count)).piece_count(), count)
        for count in (11, 12, 100):
            self.check_bad(book_text([piece_rows()] * count))
        self.check_bad(book_text([piece_rows()] * 10 + [["piece"]]))

    def test_seams(self):
        for count in (0, 1, 2, 29, 30):
            book = self.check_read(book_text([piece_rows()], ["seam 0 0 0 1 turned 5"] * count))
            self.assertEqual(book.seam_count(), count)
        for count in (31, 32, 300):
            self.check_bad(book_text([piece_rows()], ["seam 0 0 0 1 turned 5"] * count))

    def test_pairs(self):
        pieces = [piece_rows(3, 1), piece_rows(3, 2)]
        for count in range(5):
            book = self.check_read(book_text(pieces, ["seam 0 0 1 0 turned 5", *["pair 0 1"] * count]))
            self.assertEqual(book.seam(0)[4], [(0, 1)] * count)
        for count in (5, 6, 50):
            self.check_bad(book_text(pieces, ["seam 0 0 1 0 turned 5", *["pair 0 1"] * count]))

    def test_rows_that_fill_the_text(self):
        for row in ("piece", "corner 0 0 0 0 0 0", "seam 0 0 0 1 turned 0", "pair 0 0", "end", "gradecut 0", ""):
            count = 199000 // (len(row) + 1)
            self.check_bad(text_of("gradecut 0", *[row] * count, "end"))
            self.check_bad(book_text([piece_rows()], [row] * (count - 100)))
        self.check_bad("\n" * 200000)
        self.check_bad(" " * 200000)


class SeamTest(TextCase):
    def test_sides_that_are_not_there(self):
        pieces = [piece_rows(3, 1), piece_rows(4, 2)]
        for first, second in (("0 0", "1 3"), ("1 3", "0 2"), ("0 0", "0 1"), ("1 0", "0 0")):
            self.check_read(book_text(pieces, [f"seam {first} {second} straight 0"]))
        for absent in ("2 0", "-1 0", "-2 0", "0 3", "0 -1", "0 -3", "1 4", "1 -4", "99999 0", "0 99999"):
            self.check_bad(book_text(pieces, [f"seam {absent} 1 1 straight 0"]))
            self.check_bad(book_text(pieces, [f"seam 1 1 {absent} turned 0"]))
        self.check_bad(book_text([], ["seam 0 0 0 1 straight 0"]))

    def test_a_side_sewn_to_itself(self):
        for side in ("0 0", "0 2", "1 1"):
            self.check_bad(book_text([piece_rows(), piece_rows()], [f"seam {side} {side} straight 0"]))
            self.check_bad(book_text([piece_rows(), piece_rows()], [f"seam {side} {side} turned 7"]))

    def test_marks_that_are_not_there(self):
        pieces = [piece_rows(3, 1), piece_rows(3, 2)]
        seam = "seam 0 0 1 0 straight 0"
        for pair in ("0 0", "0 1"):
            self.check_read(book_text(pieces, [seam, f"pair {pair}"]))
        for pair in ("1 0", "0 2", "-1 0", "0 -1", "0 -2", "99999 0", "1 1"):
            self.check_bad(book_text(pieces, [seam, f"pair {pair}"]))
            self.check_bad(book_text(pieces, [seam, "pair 0 0", f"pair {pair}"]))
        self.check_bad(book_text(pieces, ["seam 0 1 1 1 straight 0", "pair 0 0"]))

    def test_a_way_that_is_neither(self):
        for way in ("turned", "straight"):
            self.check_read(book_text([piece_rows()], [f"seam 0 0 0 1 {way} 0"]))
        for way in ("", "turn", "Turned", "STRAIGHT", "0", "1", "True", "straight turned", "turnedstraight"):
            self.check_bad(book_text([piece_rows()], [f"seam 0 0 0 1 {way} 0"]))
        self.check_bad(book_text([piece_rows()], ["seam 0 0 0 1 0 turned"]))
        self.check_bad(book_text([piece_rows()], ["seam turned 0 0 0 1 0"]))


class ManyTextsTest(TextCase):
    def test_signs_changed_at_chance(self):
        source = random.Random(71)
        good = 0
        for trial in range(4000):
            text = source.choice((SAMPLE, EMPTY, SAMPLE))
            for change in range(source.choice((1, 1, 2))):
                at = source.randrange(len(text))
                sign = source.choice("0123456789- \nabcdefgmnprstu~+_.")
                text = source.choice((text[:at] + sign + text[at + 1:], text[:at] + text[at + 1:],
                                      text[:at] + sign + text[at:]))
            good += self.check_either(text)
        self.assertGreater(good, 200)

    def test_the_greatest_text_with_something_more(self):
        text = write(greatest_book())
        self.check_read(text)
        self.check_bad(text.replace("end\n", "seam 0 0 0 1 turned 0\nend\n"))
        self.check_bad(text.replace("seam", "".join(f"{row}\n" for row in piece_rows()) + "seam", 1))
        self.check_bad(text.replace("-20000 -20000", "-20001 -20000", 1))


if __name__ == "__main__":
    unittest.main()
