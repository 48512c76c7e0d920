"""What the tests of all the functions share."""

import contextlib
import inspect
import io
import unittest

MOST = 4294967295
REFUSAL = [-22]


class Unchangeable(list):
    """A list that raises when it is changed, even if it were changed back later."""

    def refuse(self, *args, **kwargs):
        raise AssertionError("what was handed in was changed")

    append = clear = extend = insert = pop = remove = reverse = sort = refuse
    __setitem__ = __delitem__ = __iadd__ = __imul__ = refuse


class AnswerCase(unittest.TestCase):
    """A test of one function, which a class beneath this one names by ASK."""

    ASK = None

    def ask(self, *handed):
        return type(self).ASK(*handed)

    def check(self, expected, *handed):
        asked = f"{type(self).ASK.__name__}{handed}"
        answer = self.ask(*handed)
        self.assertEqual(answer, expected, asked)
        self.assertIs(type(answer), list, asked)
        self.assertEqual({type(number) for number in answer}, {int}, asked)


class ByItself:
    """What holds of each of the CALLS of a function: tuples, each with its sections last."""

    CALLS = ()

    def test_what_was_handed_in_is_as_it_was(self):
        for *numbers, sections in self.CALLS:
            handed = list(sections)
            self.ask(*numbers, handed)
            self.assertEqual(handed, sections)

    def test_what_was_handed_in_is_not_changed_for_a_while(self):
        for *numbers, sections in self.CALLS:
            self.check(self.ask(*numbers, list(sections)), *numbers, Unchangeable(sections))

    def test_asked_twice(self):
        first = [self.ask(*numbers, list(sections)) for *numbers, sections in self.CALLS]
        again = [self.ask(*numbers, list(sections)) for *numbers, sections in reversed(self.CALLS)]
        self.assertEqual(first, again[::-1])

    def test_a_changed_answer_is_not_kept(self):
        for *numbers, sections in self.CALLS:
            answer = self.ask(*numbers, list(sections))
            expected = list(answer)
            answer.append(7)
            answer[0] = 7
            self.check(expected, *numbers, list(sections))

    def test_nothing_is_printed(self):
        printed = io.StringIO()
        with contextlib.redirect_stdout(printed), contextlib.redirect_stderr(printed):
            for *numbers, sections in self.CALLS:
                self.ask(*numbers, list(sections))
        self.assertEqual(printed.getvalue(), "")


class Interface:
    """How a function is called: by the names of PARAMETERS, in their order."""

    PARAMETERS = ()

    def test_names_and_order_of_what_is_handed_in(self):
        self.assertEqual(str(inspect.signature(type(self).ASK)), f"({', '.join(self.PARAMETERS)})")

    def test_written_in_the_file_that_its_name_tells(self):
        self.assertEqual(type(self).ASK.__module__, "paperweb.rolls")
