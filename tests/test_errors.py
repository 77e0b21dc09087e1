import unittest

from gradecut import errors

UNDER_GRADE_ERROR = (
    "BadSize", "BadPiece", "BadMove", "BadSeam", "NoSuch", "Full", "NoLength", "Crossed",
    "TooMany", "NotAlong", "SharedCorner", "TooWide", "BadText",
)


class ErrorsTest(unittest.TestCase):
    def test_grade_error_stands_straight_under_value_error(self):
        self.assertEqual(errors.GradeError.__bases__, (ValueError,))

    def test_each_other_class_stands_straight_under_grade_error(self):
        self.assertEqual(len(UNDER_GRADE_ERROR), 13)
        for name in UNDER_GRADE_ERROR:
            with self.subTest(name):
                self.assertEqual(getattr(errors, name).__bases__, (errors.GradeError,))

    def test_each_name_is_a_class_of_its_own(self):
        classes = {getattr(errors, name) for name in UNDER_GRADE_ERROR}
        self.assertEqual(len(classes), 13)
        for name in UNDER_GRADE_ERROR:
            self.assertEqual(getattr(errors, name).__name__, name)

    def test_each_can_be_raised_and_taken_as_a_grade_error(self):
        for name in UNDER_GRADE_ERROR + ("GradeError",):
            for taken in (getattr(errors, name), errors.GradeError, ValueError):
                with self.subTest(name, taken=taken), self.assertRaises(taken):
                    raise getattr(errors, name)("words")


if __name__ == "__main__":
    unittest.main()
