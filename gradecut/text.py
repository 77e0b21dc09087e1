"""The book as text: written as rows, and read back."""

from gradecut.book import Book
from gradecut.errors import BadText, GradeError

SPOT_NUMBERS = 6
SEAM_WORDS = 6
PAIR_NUMBERS = 2
# As many as -20000 has, the longest number of a book.
MOST_SIGNS = 6


def write(book):
    rows = [row("gradecut", [book.size])]
    for piece in range(book.piece_count()):
        rows.extend(piece_rows(book, piece))
    for seam in range(book.seam_count()):
        rows.extend(seam_rows(book.seam(seam)))
    rows.append("end")
    return "".join([f"{one}\n" for one in rows])


def row(word, those):
    return " ".join([word] + [str(one) for one in those])


def piece_rows(book, piece):
    rows = ["piece"]
    for corner, spot in enumerate(book.spots(piece)):
        rows.append(row("corner", spot))
        rows.extend([row("mark", mark) for mark in book.mark_spots(piece, corner)])
    return rows


def seam_rows(told):
    way = "turned" if told[2] else "straight"
    return [row("seam", told[0] + told[1] + (way, told[3]))] + [row("pair", pair) for pair in told[4]]


def read(text):
    book = Book()
    try:
        fill(book, Rows(text))
    except GradeError:
        raise BadText("the text tells what no book holds") from None
    # Each number of the text is in the book by now, so what is written otherwise than a book writes it shows here.
    if write(book) != text:
        raise BadText("no book writes the text in this way")
    return book


class Rows:
    def __init__(self, text):
        self.rows = [one.split(" ") for one in text.split("\n")]
        self.at = 0

    def begins(self, word):
        return self.at < len(self.rows) and self.rows[self.at][0] == word

    def take(self, word, count):
        if not self.begins(word) or len(self.rows[self.at]) != count + 1:
            raise BadText("a row is not as it should be")
        self.at = self.at + 1
        return self.rows[self.at - 1][1:]

    def take_numbers(self, word, count):
        return tuple([number_of(one) for one in self.take(word, count)])


def number_of(word):
    # No number of a book has more signs, and Python takes long over very great ones, or refuses them.
    if len(word) > MOST_SIGNS:
        raise BadText("a number is too long")
    try:
        return int(word)
    except ValueError:
        raise BadText("a number is missing") from None


def fill(book, rows):
    size = rows.take_numbers("gradecut", 1)[0]
    if size < 0:
        book.take_in(-size)
    else:
        book.let_out(size)
    while rows.begins("piece"):
        read_piece(book, rows)
    while rows.begins("seam"):
        read_seam(book, rows)


def read_piece(book, rows):
    rows.take("piece", 0)
    corners = []
    marks = []
    while rows.begins("corner"):
        corners.append(rows.take_numbers("corner", SPOT_NUMBERS))
        marks.append(read_those(rows, "mark", SPOT_NUMBERS))
    book.add_piece(corners, marks)


def read_seam(book, rows):
    words = rows.take("seam", SEAM_WORDS)
    numbers = [number_of(word) for word in words[:4] + words[5:]]
    pairs = read_those(rows, "pair", PAIR_NUMBERS)
    book.add_seam((numbers[0], numbers[1]), (numbers[2], numbers[3]), words[4] == "turned", numbers[4], pairs)


def read_those(rows, word, count):
    those = []
    while rows.begins(word):
        those.append(rows.take_numbers(word, count))
    return those
