"""The refusals: one class for each, all of them under GradeError."""


class GradeError(ValueError):
    pass


class BadSize(GradeError):
    pass


class BadPiece(GradeError):
    pass


class BadMove(GradeError):
    pass


class BadSeam(GradeError):
    pass


class NoSuch(GradeError):
    pass


class Full(GradeError):
    pass


class NoLength(GradeError):
    pass


class Crossed(GradeError):
    pass


class TooMany(GradeError):
    pass


class NotAlong(GradeError):
    pass


class SharedCorner(GradeError):
    pass


class TooWide(GradeError):
    pass


class BadText(GradeError):
    pass
