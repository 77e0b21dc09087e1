"""Books with their texts, and another way to tell whether a text is written of a book."""

import re

from book_case import BookCase, ring
from gradecut.book import Book
from gradecut.errors import BadText
from gradecut.text import read, write

EMPTY = "gradecut 0\nend\n"
SAMPLE = """\
gradecut -2
piece
corner 0 0 0 0 0 0
corner 1000 -20 5 6 -7 -8
mark 900 100 1 2 3 4
mark -3 -4 -5 -6 -7 -8
corner 20000 -20000 200 -200 -200 200
piece
corner 1 2 3 4 5 6
mark 7 8 9 10 11 12
corner 500 0 0 0 0 0
corner 500 400 0 0 0 0
corner 0 400 0 0 0 0
mark 30 31 32 33 34 35
mark 0 0 0 0 0 0
mark -1 0 1 0 -1 0
mark 10 20 30 40 50 60
seam 0 1 1 3 turned 12
pair 0 3
pair 1 0
seam 1 3 0 1 straight 0
pair 2 1
seam 0 0 0 2 straight 400
end
"""

NUMBER = "(?:0|-?[1-9][0-9]*)"
SPOT = f"(?: {NUMBER}){{6}}"
PIECE = f"piece\n(?:corner{SPOT}\n(?:mark{SPOT}\n)*)*"
SEAM = f"seam(?: {NUMBER}){{4}} (?:turned|straight) {NUMBER}\n(?:pair {NUMBER} {NUMBER}\n)*"
TEXT = re.compile(f"gradecut ({NUMBER})\n((?:{PIECE})*)((?:{SEAM})*)end\n")


def numbers(row):
    # Ten signs show that a number is beyond every bound; Python refuses to take thousands of them.
    return [int(number[:10]) for number in re.findall(NUMBER, row)]


def spot_fits(row):
    spot = numbers(row)
    return all(-20000 <= number <= 20000 for number in spot[:2]) and all(-200 <= number <= 200 for number in spot[2:])


def marks_by_side(piece):
    """For each corner of a piece how many marks stand behind it; None where the piece breaks a bound."""
    corners = re.findall(f"corner({SPOT})\n((?:mark{SPOT}\n)*)", piece)
    counts = [marks.count("mark") for spot, marks in corners]
    spots = re.findall(SPOT, piece)
    good = 3 <= len(corners) <= 24 and max(counts) <= 4 and all(spot_fits(spot) for spot in spots)
    return counts if good else None


def seam_fits(seam, pieces):
    row, *pairs = [numbers(one) for one in seam.splitlines()]
    first, second, ease = (row[0], row[1]), (row[2], row[3]), row[4]
    for piece, side in (first, second):
        if not 0 <= piece < len(pieces) or not 0 <= side < len(pieces[piece]):
            return False
    for one, two in pairs:
        if not 0 <= one < pieces[first[0]][first[1]] or not 0 <= two < pieces[second[0]][second[1]]:
            return False
    return first != second and 0 <= ease <= 400 and len(pairs) <= 4


def is_of_a_book(text):
    found = TEXT.fullmatch(text)
    if found is None:
        return False
    pieces = [marks_by_side(piece) for piece in re.findall(PIECE, found[2])]
    seams = re.findall(SEAM, found[3])
    if not -6 <= numbers(found[1])[0] <= 6 or None in pieces or len(pieces) > 10 or len(seams) > 30:
        return False
    return all(seam_fits(seam, pieces) for seam in seams)


def sample_book():
    """The book of which the sample is written."""
    book = Book()
    book.add_piece(
        [(0, 0, 0, 0, 0, 0), (1000, -20, 5, 6, -7, -8), (20000, -20000, 200, -200, -200, 200)],
        [[], [(900, 100, 1, 2, 3, 4), (-3, -4, -5, -6, -7, -8)], []],
    )
    book.add_piece(
        [(1, 2, 3, 4, 5, 6), (500, 0, 0, 0, 0, 0), (500, 400, 0, 0, 0, 0), (0, 400, 0, 0, 0, 0)],
        [
            [(7, 8, 9, 10, 11, 12)], [], [],
            [(30, 31, 32, 33, 34, 35), (0, 0, 0, 0, 0, 0), (-1, 0, 1, 0, -1, 0), (10, 20, 30, 40, 50, 60)],
        ],
    )
    book.add_seam((0, 1), (1, 3), True, 12, [(0, 3), (1, 0)])
    book.add_seam((1, 3), (0, 1), False, 0, [(2, 1)])
    book.add_seam((0, 0), (0, 2), False, 400)
    book.take_in(2)
    return book


def greatest_book():
    """As many of all as a book may have, with the longest numbers."""
    book = Book()
    spot = (-20000, -20000, -200, -200, -200, -200)
    for piece in range(10):
        book.add_piece([spot] * 24, [[spot] * 4] * 24)
    for seam in range(30):
        book.add_seam((9, 22), (9, 23), False, 400, [(3, 3)] * 4)
    book.take_in(6)
    return book


def rings():
    book = Book()
    for count in (3, 4, 24):
        book.add_piece(ring(count), [ring(side % 5) for side in range(count)])
    return book


class TextCase(BookCase):
    def check_read(self, text):
        """A text that is written of a book is read back into one of which it is written."""
        self.assertTrue(is_of_a_book(text), text[:300])
        book = read(text)
        self.assertIs(type(book), Book)
        self.assertEqual(write(book), text)
        return book

    def check_bad(self, text):
        self.assertFalse(is_of_a_book(text), text[:300])
        with self.assertRaises(BadText) as taken:
            read(text)
        self.assertIs(type(taken.exception), BadText)

    def check_either(self, text):
        """Whether it is read; the one or the other is due by the other way to tell."""
        good = is_of_a_book(text)
        if good:
            self.check_read(text)
        else:
            self.check_bad(text)
        return good
