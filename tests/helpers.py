"""What the tests of all the functions share."""

import contextlib
import inspect
import io
import itertools
import unittest

from paperweb.rolls import runs

MOST = 4294967295
REFUSAL = [-22]
LO, HI = 100, 200
WRONG_WEBS = tuple({"sections": sections} for sections in (
    [], [150] * 41, [150] * 44, [1001], [MOST], [150, 1001], [1001, 150], [150] * 39 + [MOST]))
WRONG_LIMITS = tuple({"lo": lo, "hi": hi} for lo, hi in (
    (HI + 1, HI), (LO, LO - 1), (1, 0), (MOST, HI), (1001, 1000), (0, 1001), (LO, MOST), (1001, 1001), (MOST, MOST)))


def web(marks):
    """A web told by signs: # is a section that is good from LO to HI, any other sign is a bad one."""
    good_ones = itertools.cycle((LO, 150, HI))
    bad_ones = itertools.cycle((LO - 1, HI + 1, 0, 1000))
    return [next(good_ones if mark == "#" else bad_ones) for mark in marks]


def all_marks(longest):
    """The signs of every web of at most so many sections."""
    for length in range(1, longest + 1):
        yield from map("".join, itertools.product("#.", repeat=length))


def find_usable(lo, hi, p, sections):
    """Which sections are usable by what runs answers: without one of these there are fewer. 0 has to be bad."""
    before = runs(lo, hi, p, sections)[2]
    return {k for k in range(len(sections)) if runs(lo, hi, p, sections[:k] + [0] + sections[k + 1:])[2] < before}


class Unchangeable(list):
    """A list that raises when it is changed, even if it were changed back later."""

    def refuse(self, *args, **kwargs):
        raise AssertionError("what was handed in was changed")

    append = clear = extend = insert = pop = remove = reverse = sort = refuse
    __setitem__ = __delitem__ = __iadd__ = __imul__ = refuse


class AnswerCase(unittest.TestCase):
    """A test of one function, which a class beneath this one names by ASK."""

    ASK = None

    def ask(self, *handed):
        return type(self).ASK(*handed)

    def check(self, expected, *handed):
        asked = f"{type(self).ASK.__name__}{handed}"
        answer = self.ask(*handed)
        self.assertEqual(answer, expected, asked)
        self.assertIs(type(answer), list, asked)
        self.assertEqual({type(number) for number in answer}, {int}, asked)


class ByItself:
    """What holds of each of the CALLS of a function: tuples, each with its sections last."""

    CALLS = ()

    def test_what_was_handed_in_is_as_it_was(self):
        for *numbers, sections in self.CALLS:
            handed = list(sections)
            self.ask(*numbers, handed)
            self.assertEqual(handed, sections)

    def test_what_was_handed_in_is_not_changed_for_a_while(self):
        for *numbers, sections in self.CALLS:
            self.check(self.ask(*numbers, list(sections)), *numbers, Unchangeable(sections))

    def test_asked_twice(self):
        first = [self.ask(*numbers, list(sections)) for *numbers, sections in self.CALLS]
        again = [self.ask(*numbers, list(sections)) for *numbers, sections in reversed(self.CALLS)]
        self.assertEqual(first, again[::-1])

    def test_a_changed_answer_is_not_kept(self):
        for *numbers, sections in self.CALLS:
            answer = self.ask(*numbers, list(sections))
            expected = list(answer)
            answer.append(7)
            answer[0] = 7
            self.check(expected, *numbers, list(sections))

    def test_nothing_is_printed(self):
        printed = io.StringIO()
        with contextlib.redirect_stdout(printed), contextlib.redirect_stderr(printed):
            for *numbers, sections in self.CALLS:
                self.ask(*numbers, list(sections))
        self.assertEqual(printed.getvalue(), "")


class Refuses:
    """What is refused: the call RIGHT, told by names, with changes made to it.

    Each group in WRONG holds changes of the same names, so two of one group can't be made at once.
    """

    RIGHT = {}
    WRONG = ()

    def check_refused(self, *changes):
        handed = dict(self.RIGHT)
        for change in changes:
            handed.update(change)
        self.check(REFUSAL, *handed.values())

    def test_what_is_right_is_not_refused(self):
        self.assertNotEqual(self.ask(*self.RIGHT.values()), REFUSAL)

    def test_each_by_itself(self):
        for change in itertools.chain(*self.WRONG):
            self.check_refused(change)

    def test_several_at_once(self):
        for how_many in range(2, len(self.WRONG) + 1):
            for groups in itertools.combinations(self.WRONG, how_many):
                for changes in itertools.product(*groups):
                    self.check_refused(*changes)


class Interface:
    """How a function is called: by the names of PARAMETERS, in their order."""

    PARAMETERS = ()

    def test_names_and_order_of_what_is_handed_in(self):
        self.assertEqual(str(inspect.signature(type(self).ASK)), f"({', '.join(self.PARAMETERS)})")

    def test_written_in_the_file_that_its_name_tells(self):
        self.assertEqual(type(self).ASK.__module__, "paperweb.rolls")
