"""Tests of paperweb.rolls.runs: promise 2, what it says of runs, and promise 3, what it says of them."""

import itertools
import unittest

from helpers import (HI, LO, MOST, REFUSAL, WRONG_LIMITS, WRONG_WEBS, AnswerCase, ByItself, Interface, Refuses,
                     all_marks, find_usable, web)
from paperweb.rolls import good, runs


def told(marks, p):
    """What the document asks for, said another way than the program says it."""
    lengths = [len(run) for run in marks.replace(".", " ").split() if len(run) >= p]
    return [len(lengths), max([0] + lengths), sum(lengths)]


class RunsCase(AnswerCase):
    ASK = runs

    def check_marks(self, expected, marks, p):
        self.check(expected, LO, HI, p, web(marks))


class Ordinary(RunsCase):
    def test_runs_below_p_and_runs_of_p_or_more(self):
        self.check([2, 4, 7], 100, 200, 3, [150, 99, 100, 200, 150, 201, 120, 130, 0, 100, 101, 102, 200])
        self.check_marks([2, 5, 8], "###.#####.##", 3)
        self.check_marks([3, 6, 13], "#..####.##...###.#.######", 3)
        self.check_marks([2, 6, 10], "#..####.##...###.#.######", 4)
        self.check_marks([1, 6, 6], "#..####.##...###.#.######", 5)

    def test_how_many_then_the_longest_then_the_usable(self):
        self.check_marks([4, 3, 9], "##.##..###.##", 2)
        self.check_marks([4, 1, 4], "#.#.#..#", 1)
        self.check_marks([2, 9, 11], "##.#########.#", 2)

    def test_the_longest_first_in_the_middle_and_last(self):
        self.check_marks([3, 7, 13], "#######.##..####", 2)
        self.check_marks([3, 7, 13], "##.#######..####", 2)
        self.check_marks([3, 7, 13], "##.####..#######", 2)

    def test_runs_of_the_same_length(self):
        self.check_marks([3, 3, 9], "###.###..###", 2)
        self.check_marks([3, 3, 9], "###.###..###.#.##", 3)
        self.check_marks([4, 5, 16], "#####.###.###...#####", 1)

    def test_the_longest_of_good_sections_that_are_not_one_behind_another(self):
        self.check_marks([1, 3, 3], "##.##.###.##.##", 3)

    def test_each_section_counts(self):
        for k in range(1, 39):
            self.check_marks([2, max(k, 39 - k), 39], "#" * k + "." + "#" * (39 - k), 1)

    def test_every_small_web(self):
        for marks in all_marks(9):
            for p in range(1, 11):
                self.check_marks(told(marks, p), marks, p)

    def test_every_two_runs_in_a_long_web(self):
        for first, second in itertools.product(range(1, 20), repeat=2):
            marks = "." + "#" * first + "." + "#" * second
            for p in (1, 2, first, second, 19, 20):
                self.check_marks(told(marks, p), marks, p)


class Edges(RunsCase):
    def test_one_section(self):
        self.check_marks([1, 1, 1], "#", 1)
        self.check_marks([0, 0, 0], "#", 2)
        self.check_marks([0, 0, 0], ".", 1)
        self.check_marks([0, 0, 0], ".", 2)

    def test_all_bad(self):
        for length, p in itertools.product((1, 2, 39, 40), (1, 2, 20)):
            self.check_marks([0, 0, 0], "." * length, p)

    def test_all_good(self):
        for length, p in itertools.product(range(1, 41), range(1, 21)):
            self.check_marks([1, length, length] if length >= p else [0, 0, 0], "#" * length, p)

    def test_a_run_of_just_p_and_one_of_p_less_one(self):
        for p in range(2, 21):
            self.check_marks([1, p, p], "#" * p + "." + "#" * (p - 1), p)
            self.check_marks([1, p, p], "#" * (p - 1) + "." + "#" * p, p)
            self.check_marks([0, 0, 0], "." + "#" * (p - 1) + "." + "#" * (p - 1), p)

    def test_a_run_that_begins_with_the_first_section(self):
        self.check_marks([1, 3, 3], "###..", 3)
        self.check_marks([0, 0, 0], "##..", 3)

    def test_a_run_that_ends_with_the_last_section(self):
        self.check_marks([1, 3, 3], "..###", 3)
        self.check_marks([0, 0, 0], "..##", 3)

    def test_two_runs_with_one_bad_section_between(self):
        self.check_marks([2, 4, 7], "###.####", 3)
        self.check_marks([1, 4, 4], "###.####", 4)
        self.check_marks([0, 0, 0], "###.####", 5)

    def test_p_of_1(self):
        self.check_marks([3, 2, 4], "#.##.#", 1)

    def test_p_of_20(self):
        self.check_marks([1, 20, 20], "#" * 20 + "." + "#" * 19, 20)
        self.check_marks([1, 21, 21], "#" * 18 + "." + "#" * 21, 20)
        self.check_marks([0, 0, 0], "#" * 19 + ".." + "#" * 19, 20)
        self.check_marks([1, 40, 40], "#" * 40, 20)

    def test_p_above_the_length_of_the_web(self):
        for length in range(1, 20):
            self.check_marks([0, 0, 0], "#" * length, length + 1)
            self.check_marks([0, 0, 0], "#" * length, 20)

    def test_forty_sections_good_and_bad_by_turns(self):
        self.check_marks([20, 1, 20], "#." * 20, 1)
        self.check_marks([20, 1, 20], ".#" * 20, 1)
        self.check_marks([0, 0, 0], "#." * 20, 2)
        self.check_marks([0, 0, 0], ".#" * 20, 2)
        self.check_marks([10, 2, 20], "##.." * 10, 2)

    def test_just_lo_and_just_hi(self):
        self.check([1, 2, 2], 300, 400, 2, [300, 400])
        self.check([1, 1, 1], 300, 400, 1, [300])
        self.check([1, 1, 1], 300, 400, 1, [400])

    def test_outside_by_one(self):
        self.check([0, 0, 0], 300, 400, 1, [299, 401])
        self.check([2, 2, 4], 300, 400, 2, [300, 301, 299, 399, 400, 401, 350])
        self.check([1, 2, 2], 300, 400, 1, [299, 300, 400, 401])

    def test_lo_and_hi_the_same(self):
        self.check([2, 2, 3], 300, 300, 1, [300, 300, 299, 300, 301])
        self.check([1, 2, 2], 0, 0, 2, [1, 0, 0, 1])
        self.check([1, 3, 3], 1000, 1000, 2, [1000, 1000, 1000, 999, 1000])

    def test_widest_limits(self):
        self.check([1, 4, 4], 0, 1000, 4, [0, 1000, 1, 999])
        self.check([1, 40, 40], 0, 1000, 1, [0, 1000] * 20)


class WhatHolds(RunsCase):
    def test_neighbours_of_a_run_are_bad(self):
        for length in range(1, 41):
            for first, last in itertools.combinations_with_replacement(range(length), 2):
                long = last - first + 1
                marks = "." * first + "#" * long + "." * (length - last - 1)
                self.check_marks([1, long, long], marks, 1)

    def test_a_good_neighbour_is_of_the_run(self):
        for marks in all_marks(8):
            for k, mark in enumerate(marks):
                if mark == ".":
                    ahead = len(marks[:k]) - len(marks[:k].rstrip("#"))
                    behind = len(marks[k + 1:]) - len(marks[k + 1:].lstrip("#"))
                    before, after = told(marks, 1), runs(LO, HI, 1, web(marks[:k] + "#" + marks[k + 1:]))
                    self.assertEqual(after[0], before[0] + 1 - (ahead > 0) - (behind > 0), (marks, k))
                    self.assertEqual(after[1], max(before[1], ahead + 1 + behind), (marks, k))

    def test_with_p_of_1_all_that_is_good_is_usable(self):
        for marks in all_marks(8):
            sections = web(marks)
            self.assertEqual(runs(LO, HI, 1, sections)[2], good(LO, HI, sections)[0])

    def test_with_wider_limits_what_was_usable_is_so(self):
        for step, p in itertools.product(range(1, 40), (1, 2, 3, 5)):
            sections = [500 + k * k * step % 101 - 50 for k in range(1, 41)]
            before = set()
            for wider in range(0, 51, 5):
                usable = find_usable(500 - wider, 500 + wider // 2, p, sections)
                self.assertLessEqual(before, usable, (step, p, wider))
                before = usable


class RunsRefuses(Refuses, RunsCase):
    RIGHT = {"lo": LO, "hi": HI, "p": 2, "sections": web("##.###")}
    WRONG = (WRONG_WEBS, WRONG_LIMITS, ({"p": 0}, {"p": 21}, {"p": MOST}))

    def test_p_that_is_not_1_to_20(self):
        for p in itertools.chain((0,), range(21, 60), (65536, MOST - 1, MOST)):
            self.check(REFUSAL, 0, 1000, p, [500] * 40)

    def test_a_section_above_1000_wherever_it_lies(self):
        for measured, k in itertools.product((1001, MOST), range(40)):
            self.check(REFUSAL, LO, HI, 2, [150] * k + [measured] + [150] * (39 - k))


class RunsByItself(ByItself, RunsCase):
    CALLS = (
        (LO, HI, 2, web("#.##..####")),
        (LO, HI, 1, web("#." * 20)),
        (LO, HI, 20, web("#" * 40)),
        (LO, HI, 5, web("##.##")),
        (LO, HI, 2, []),
        (LO, HI, 2, [150] * 44),
        (LO, HI, 2, [150, MOST]),
        (HI, LO, 2, web("##")),
        (LO, MOST, 2, web("##")),
        (LO, HI, 0, web("##")),
        (LO, HI, MOST, web("##")),
    )

    def test_a_changed_list_is_read_anew(self):
        sections = web("##.##")
        self.assertEqual(runs(LO, HI, 2, sections), [2, 2, 4])
        sections[2] = 150
        self.assertEqual(runs(LO, HI, 2, sections), [1, 5, 5])
        sections.clear()
        self.assertEqual(runs(LO, HI, 2, sections), REFUSAL)


class RunsInterface(Interface, RunsCase):
    PARAMETERS = ("lo", "hi", "p", "sections")

    def test_called_by_names(self):
        self.assertEqual(runs(sections=[3, 4, 9], p=2, hi=5, lo=3), [1, 2, 2])


if __name__ == "__main__":
    unittest.main()
