"""Tests of paperweb.rolls.rolls: promise 2, what it says of rolls, and promise 3."""

import itertools
import re
import unittest

from helpers import (HI, LO, MOST, REFUSAL, WRONG_LIMITS, WRONG_WEBS, AnswerCase, ByItself, Interface, Refuses,
                     all_marks, find_usable, web)
from paperweb.rolls import rolls


def told_usable(marks, p):
    return [k for run in re.finditer("#{%d,}" % p, marks) for k in range(*run.span())]


def told_pieces(roll):
    """How long the pieces of a roll are, told by its sections."""
    return [len(piece) for piece in "".join("#" if k in roll else " " for k in range(40)).split()]


def told_rolls(marks, p, j, n):
    """The sections of every roll that may be cut, by where it begins."""
    usable = told_usable(marks, p)
    every = [usable[k:k + n] for k in range(len(usable) - n + 1)]
    return {roll[0]: roll for roll in every if len(told_pieces(roll)) <= j + 1 and min(told_pieces(roll)) >= p}


def search(marks, p, j, n):
    """The first way, of all ways to cut, that has the most rolls: ways of as many come by where they begin."""
    able = told_rolls(marks, p, j, n)
    for how_many in range(len(marks) // n, -1, -1):
        for begins in itertools.combinations(sorted(able), how_many):
            if len({k for begin in begins for k in able[begin]}) == how_many * n:
                return [how_many, *begins]


def told_most(marks, p, j, n):
    """How many rolls can be, for webs with too many ways for a search: the most of what is left, from the back on."""
    usable, able = told_usable(marks, p), told_rolls(marks, p, j, n)
    most = [0] * (len(usable) + n)
    for k in reversed(range(len(usable))):
        most[k] = max(most[k + 1], 1 + most[k + n] if usable[k] in able else 0)
    return most[0]


def told_marks(lo, hi, sections):
    return "".join("#" if measured in range(lo, hi + 1) else "." for measured in sections)


def mixed_marks(length, how_many):
    """The signs of so many webs with mostly good sections."""
    for step in range(1, how_many + 1):
        bits = (step * 11400714819323198485 >> 17 | step * 14029467366897019727 >> 19) % 2 ** length
        yield "".join("#" if bits >> k & 1 else "." for k in range(length))


class RollsCase(AnswerCase):
    ASK = rolls

    def ask_marks(self, marks, p, j, n):
        return self.ask(LO, HI, p, j, n, web(marks))

    def check_marks(self, expected, marks, p, j, n):
        self.check(expected, LO, HI, p, j, n, web(marks))


class Ordinary(RollsCase):
    def test_rolls_within_runs(self):
        self.check([2, 0, 6], 100, 200, 2, 0, 3, [100, 150, 200, 120, 99, 201, 130, 101, 199, 0])
        self.check_marks([2, 0, 3], "#######", 1, 0, 3)
        self.check_marks([4, 1, 4, 8, 14], ".######.###...####", 3, 0, 3)
        self.check_marks([2, 3, 9], "##.####..#####.###", 2, 0, 4)

    def test_rolls_joined_of_two(self):
        self.check([2, 0, 5], 100, 200, 2, 1, 4, [100, 150, 200, 120, 99, 130, 101, 0, 199, 180, 150])
        self.check_marks([2, 0, 6], "###.####.###", 2, 1, 5)
        self.check_marks([2, 0, 8], "###.##..####.#", 1, 1, 5)
        self.check_marks([1, 1], "####.###", 3, 1, 6)

    def test_rolls_joined_of_more(self):
        self.check_marks([1, 0], "##.##.##", 2, 2, 6)
        self.check_marks([2, 0, 10], "##.##.##..##.#####", 2, 2, 6)
        self.check_marks([2, 0, 11], "##.##..###.##.###.##", 2, 3, 7)
        self.check_marks([1, 2], "#.##.##.##.##", 2, 3, 8)

    def test_some_within_a_run_and_some_joined(self):
        self.check_marks([3, 0, 4, 10], "######.##.####", 2, 1, 4)
        self.check_marks([3, 0, 5, 12], "####.##..##.####", 2, 1, 4)

    def test_a_run_below_p_is_passed_over(self):
        self.check_marks([1, 0], "##.#.##", 2, 1, 4)
        self.check_marks([1, 3], "##.###.#.###.##", 3, 1, 6)
        self.check_marks([2, 0, 6], "###.#.###", 3, 0, 3)

    def test_a_gap_may_be_of_any_length(self):
        for gap in range(1, 37):
            self.check_marks([1, 0], "##" + "." * gap + "##", 2, 1, 4)

    def test_of_like_ones_those_that_begin_earlier(self):
        self.check_marks([1, 0], "#####", 1, 0, 4)
        self.check_marks([3, 0, 3, 6], "###########", 1, 0, 3)
        self.check_marks([2, 0, 5], "#######.####", 2, 1, 5)
        self.check_marks([2, 2, 8], "#.#####.####", 2, 1, 4)

    def test_begins_are_counted_in_sections_not_in_usable_ones(self):
        self.check_marks([1, 39], "." * 39 + "#", 1, 0, 1)
        self.check_marks([2, 5, 30], "." * 5 + "###" + "." * 22 + "###" + "." * 7, 3, 0, 3)


class NobodyCutsMore(RollsCase):
    def check_search(self, marks, p, j, n):
        self.check_marks(search(marks, p, j, n), marks, p, j, n)

    def test_every_small_web(self):
        for marks in all_marks(8):
            for p, j, n in itertools.product((1, 2, 3), (0, 1, 2), range(1, 8)):
                self.check_search(marks, p, j, n)

    def test_webs_of_more_sections(self):
        for length, most_n in ((14, 8), (20, 10)):
            for marks in mixed_marks(length, 50):
                for p, j, n in itertools.product((1, 2, 3, 4), (0, 1, 2, 3, 5), range(4, most_n + 1)):
                    self.check_search(marks, p, j, n)

    def test_every_pair_of_limits_around_a_web(self):
        for step in (3, 7, 8):
            sections = [k * k * step % 11 for k in range(1, 13)]
            for lo, hi in itertools.combinations_with_replacement(range(12), 2):
                for p, j, n in itertools.product((1, 2, 3), (0, 1, 2), range(2, 7)):
                    self.check(search(told_marks(lo, hi, sections), p, j, n), lo, hi, p, j, n, sections)

    def test_webs_of_forty_sections(self):
        for marks in mixed_marks(40, 40):
            for p, j, n in itertools.product((1, 2, 3, 5), range(6), (1, 2, 3, 4, 6, 9, 13, 20)):
                self.assertEqual(self.ask_marks(marks, p, j, n)[0], told_most(marks, p, j, n), (marks, p, j, n))


class Corners(RollsCase):
    def test_one_section(self):
        self.check_marks([1, 0], "#", 1, 0, 1)
        self.check_marks([1, 0], "#", 1, 5, 1)
        self.check_marks([0], ".", 1, 0, 1)
        self.check_marks([0], "#", 2, 0, 1)
        self.check_marks([0], "#", 1, 0, 2)

    def test_all_bad(self):
        for length, p, j, n in itertools.product((1, 2, 39, 40), (1, 2, 20), (0, 5), (1, 2, 40)):
            self.check_marks([0], "." * length, p, j, n)

    def test_a_roll_as_long_as_the_web(self):
        for length in range(1, 41):
            for p, j in itertools.product((1, min(length, 20)), (0, 5)):
                self.check_marks([1, 0], "#" * length, p, j, length)

    def test_a_roll_of_all_that_is_usable(self):
        self.check_marks([1, 2], "..###.####.###..", 3, 2, 10)
        self.check_marks([0], "..###.####.###..", 3, 1, 10)

    def test_no_roll_begins_where_its_last_piece_is_too_short(self):
        self.check_marks([1, 1], "####.##", 2, 1, 5)
        self.check_marks([0], "###.###", 3, 1, 4)
        self.check_marks([0], "###.###", 3, 1, 5)
        self.check_marks([1, 0], "###.###", 3, 1, 6)
        self.check_marks([1, 2], "#####.####", 3, 1, 6)

    def test_a_first_piece_too_short_is_left_by_the_roll_ahead(self):
        self.check_marks([2, 0, 6], "#####.####", 2, 1, 4)
        self.check_marks([2, 0, 4], "#####.####", 1, 1, 4)
        self.check_marks([2, 0, 7], "######.####", 3, 1, 4)
        self.check_marks([1, 0], "###.###.####", 2, 1, 5)

    def test_no_middle_piece_is_too_short(self):
        self.check_marks([0], "###.##.###", 3, 2, 8)
        self.check_marks([1, 0], "###.##.###", 3, 2, 6)
        self.check_marks([1, 0], "###.##.###", 2, 2, 8)

    def test_a_run_of_just_p(self):
        for p in range(1, 21):
            self.check_marks([1, 0], "#" * p, p, 0, p)
            self.check_marks([1, p], "#" * (p - 1) + "." + "#" * p, p, 0, p)
            self.check_marks([0], "#" * (p - 1) + ".", p, 0, max(p - 1, 1))
        self.check_marks([1, 0], "#" * 19 + "." + "#" * 19, 19, 1, 38)
        self.check_marks([0], "#" * 19 + "." + "#" * 19, 20, 1, 38)

    def test_no_joins(self):
        self.check_marks([0], "###.###.###", 1, 0, 4)
        self.check_marks([3, 0, 4, 8], "###.###.###", 1, 0, 3)
        self.check_marks([3, 0, 4, 8], "###.###.###", 1, 0, 2)
        self.check_marks([9, 0, 1, 2, 4, 5, 6, 8, 9, 10], "###.###.###", 1, 0, 1)

    def test_two_runs_with_one_bad_section_between(self):
        self.check_marks([1, 0], "###.###", 3, 1, 6)
        self.check_marks([0], "###.###", 3, 0, 6)
        self.check_marks([2, 0, 4], "###.###", 3, 0, 3)
        self.check_marks([2, 0, 4], "###.###", 3, 1, 3)
        self.check_marks([3, 0, 2, 5], "###.###", 1, 1, 2)
        self.check_marks([2, 0, 4], "###.###", 1, 0, 2)


class Edges(RollsCase):
    def test_n_of_1(self):
        self.check_marks([4, 0, 2, 3, 7], "#.##...#", 1, 0, 1)
        self.check_marks([40] + list(range(40)), "#" * 40, 1, 0, 1)
        for j in (0, 1, 5):
            self.check_marks([0], "#.##...#####", 2, j, 1)

    def test_n_below_p(self):
        for p in range(2, 21):
            for j, n in itertools.product((0, 1, 5), range(1, p)):
                self.check_marks([0], "#" * 40, p, j, n)

    def test_n_of_just_p(self):
        self.check_marks([2, 0, 20], "#" * 40, 20, 0, 20)
        self.check_marks([2, 0, 7], "####...###", 3, 5, 3)

    def test_n_of_40(self):
        for p, j in itertools.product((1, 20), (0, 5)):
            self.check_marks([1, 0], "#" * 40, p, j, 40)
        self.check_marks([0], "#" * 39, 1, 5, 40)
        for k in range(40):
            self.check_marks([0], "#" * k + "." + "#" * (39 - k), 1, 5, 40)

    def test_fewer_usable_sections_than_n(self):
        self.check_marks([0], "###.###", 1, 5, 7)
        self.check_marks([0], "###.##.###", 3, 5, 7)
        self.check_marks([0], "##", 1, 0, 3)

    def test_usable_sections_left(self):
        self.check_marks([1, 1], "####.##", 2, 1, 5)
        self.check_marks([2, 0, 6], "#####.####", 2, 1, 4)
        self.check_marks([2, 0, 3], "########", 1, 0, 3)
        self.check_marks([2, 1, 10], "####.###.####.###.###", 3, 1, 6)

    def test_just_j_joins_and_one_too_many(self):
        for j in range(6):
            runs = ["##"] * (j + 1)
            self.check_marks([1, 0], ".".join(runs), 2, j, 2 * j + 2)
            self.check_marks([0], ".".join(runs + ["##"]), 2, j, 2 * j + 4)
            self.check_marks([0], ".".join(runs + ["#"]), 1, j, 2 * j + 3)

    def test_j_of_5_with_six_pieces_and_with_seven(self):
        self.check_marks([1, 0], "#.#.#.#.#.#", 1, 5, 6)
        self.check_marks([0], "#.#.#.#.#.#.#", 1, 5, 7)
        self.check_marks([1, 2], "#.###.##.##.##.##.##.#", 2, 5, 13)
        self.check_marks([0], "##.##.##.##.##.##.##", 2, 5, 14)

    def test_forty_sections_good_and_bad_by_turns(self):
        self.check_marks([20] + list(range(0, 40, 2)), "#." * 20, 1, 0, 1)
        self.check_marks([20] + list(range(1, 40, 2)), ".#" * 20, 1, 5, 1)
        self.check_marks([10] + list(range(0, 40, 4)), "#." * 20, 1, 1, 2)
        self.check_marks([3, 0, 12, 24], "#." * 20, 1, 5, 6)
        self.check_marks([0], "#." * 20, 1, 0, 2)
        self.check_marks([0], "#." * 20, 1, 5, 7)
        self.check_marks([0], "#." * 20, 2, 5, 2)

    def test_limits(self):
        self.check([1, 1], 300, 400, 2, 0, 2, [299, 300, 400, 401])
        self.check([3, 0, 1, 3], 300, 300, 1, 0, 1, [300, 300, 299, 300, 301])
        self.check([2, 0, 2], 0, 1000, 2, 0, 2, [0, 1000, 1, 999])
        self.check([1, 2], 0, 0, 1, 0, 1, [1, 1000, 0])
        self.check([1, 1], 1000, 1000, 1, 0, 1, [999, 1000, 0])


class WhatHolds(RollsCase):
    def test_pieces_make_the_roll(self):
        for marks in mixed_marks(40, 40):
            for p, j, n in itertools.product((1, 2, 3, 5), range(6), (1, 2, 3, 5, 8, 12, 17)):
                able = told_rolls(marks, p, j, n)
                how_many, *begins = self.ask_marks(marks, p, j, n)
                self.assertEqual(how_many, len(begins), (marks, p, j, n))
                self.assertLessEqual(set(begins), set(able), (marks, p, j, n))
                cut = [k for begin in begins for k in able[begin]]
                self.assertEqual(cut, sorted(set(cut)), (marks, p, j, n))

    def test_with_more_joins_there_are_no_fewer_rolls(self):
        for marks in mixed_marks(40, 60):
            for p, n in itertools.product((1, 2, 3, 4, 5), range(1, 25)):
                how_many = [self.ask_marks(marks, p, j, n)[0] for j in range(6)]
                self.assertEqual(how_many, sorted(how_many), (marks, p, n))

    def see_usable(self, lo, hi, p, sections):
        """Which sections are usable by what rolls answers: each p of them that are a roll by themselves."""
        begins = [k for k in range(41 - p) if self.ask(lo, hi, p, 0, p, sections[k:k + p]) == [1, 0]]
        return {k for begin in begins for k in range(begin, begin + p)}

    def test_with_wider_limits_what_was_usable_is_so(self):
        for step, p in itertools.product(range(1, 30), (1, 2, 3, 5)):
            sections = [500 + k * k * step % 101 - 50 for k in range(1, 41)]
            before = set()
            for wider in range(0, 51, 5):
                lo, hi = 500 - wider, 500 + wider // 2
                usable = self.see_usable(lo, hi, p, sections)
                self.assertLessEqual(before, usable, (step, p, wider))
                self.assertEqual(usable, find_usable(lo, hi, p, sections), (step, p, wider))
                self.assertLessEqual(set(self.ask(lo, hi, p, 3, 2 * p, sections)[1:]), usable, (step, p, wider))
                before = usable


class RollsRefuses(Refuses, RollsCase):
    RIGHT = {"lo": LO, "hi": HI, "p": 2, "j": 1, "n": 4, "sections": web("##.###")}
    WRONG = (
        WRONG_WEBS,
        WRONG_LIMITS,
        ({"p": 0}, {"p": 21}, {"p": MOST}),
        ({"j": 6}, {"j": MOST}),
        ({"n": 0}, {"n": 41}, {"n": MOST}),
    )

    def test_p_that_is_not_1_to_20(self):
        for p in itertools.chain((0,), range(21, 60), (65536, MOST - 1, MOST)):
            self.check(REFUSAL, 0, 1000, p, 5, 40, [500] * 40)

    def test_j_above_5(self):
        for j in itertools.chain(range(6, 60), (65536, MOST - 1, MOST)):
            self.check(REFUSAL, 0, 1000, 1, j, 1, [500] * 40)

    def test_n_that_is_not_1_to_40(self):
        for n in itertools.chain((0,), range(41, 60), (65536, MOST - 1, MOST)):
            self.check(REFUSAL, 0, 1000, 1, 5, n, [500] * 40)
            self.check(REFUSAL, 0, 1000, 1, 0, n, [500])

    def test_a_section_above_1000_wherever_it_lies(self):
        for measured, k in itertools.product((1001, MOST), range(40)):
            self.check(REFUSAL, LO, HI, 2, 1, 4, [150] * k + [measured] + [150] * (39 - k))


class RollsByItself(ByItself, RollsCase):
    CALLS = (
        (LO, HI, 2, 1, 4, web("#####.##..####")),
        (LO, HI, 1, 5, 6, web("#." * 20)),
        (LO, HI, 20, 0, 40, web("#" * 40)),
        (LO, HI, 5, 0, 5, web("##.##")),
        (LO, HI, 2, 0, 2, []),
        (LO, HI, 2, 0, 2, [150] * 44),
        (LO, HI, 2, 0, 2, [150, MOST]),
        (HI, LO, 2, 0, 2, web("##")),
        (LO, MOST, 2, 0, 2, web("##")),
        (LO, HI, 0, 0, 2, web("##")),
        (LO, HI, 2, 6, 2, web("##")),
        (LO, HI, 2, 0, 0, web("##")),
        (LO, HI, 2, 0, MOST, web("##")),
    )

    def test_a_changed_list_is_read_anew(self):
        sections = web("##.##")
        self.assertEqual(rolls(LO, HI, 2, 0, 2, sections), [2, 0, 3])
        sections[0] = 0
        self.assertEqual(rolls(LO, HI, 2, 0, 2, sections), [1, 3])
        sections.clear()
        self.assertEqual(rolls(LO, HI, 2, 0, 2, sections), REFUSAL)


class RollsInterface(Interface, RollsCase):
    PARAMETERS = ("lo", "hi", "p", "j", "n", "sections")

    def test_called_by_names(self):
        self.assertEqual(rolls(sections=[3, 4, 9, 5, 3], n=4, j=1, p=2, hi=5, lo=3), [1, 0])


if __name__ == "__main__":
    unittest.main()
