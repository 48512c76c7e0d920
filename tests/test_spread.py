"""Tests of paperweb.rolls.spread: promise 1, what it says of all calls and of spread."""

import itertools
import unittest

from helpers import MOST, REFUSAL, AnswerCase, ByItself, Interface
from paperweb.rolls import spread


def told(sections):
    """What the document asks for, said another way than the program says it."""
    ordered = sorted(sections)
    total = 0
    for measured in ordered:
        total += measured
    mean = max(whole for whole in range(1001) if whole * len(ordered) <= total)
    return [mean, ordered[0], ordered[-1]]


class SpreadCase(AnswerCase):
    ASK = spread


class Ordinary(SpreadCase):
    def test_mean_then_least_then_greatest(self):
        self.check([300, 100, 700], [200, 100, 700, 200])
        self.check([498, 480, 510], [500, 480, 490, 510, 510])
        self.check([205, 3, 900], [3, 10, 900, 7, 105])

    def test_a_mean_that_comes_out_whole(self):
        self.check([2, 1, 3], [1, 2, 3])
        self.check([500, 0, 1000], [0, 1000])
        self.check([250, 100, 400], [400, 100, 150, 350])

    def test_a_mean_rounded_down_from_just_above(self):
        self.check([10, 10, 11], [10, 10, 11])
        self.check([7, 0, 22], [22, 0, 0])
        self.check([500, 500, 501], [500] * 39 + [501])

    def test_a_mean_rounded_down_from_just_below(self):
        self.check([10, 10, 11], [11, 10, 11])
        self.check([6, 0, 20], [0, 0, 20])
        self.check([500, 500, 501], [501] * 39 + [500])

    def test_a_mean_rounded_down_from_halfway(self):
        self.check([10, 10, 11], [10, 11])
        self.check([11, 11, 12], [11, 12])
        self.check([0, 0, 1], [1, 0])

    def test_a_mean_is_no_middle_section(self):
        self.check([334, 1, 1000], [1, 1, 1000])
        self.check([20, 0, 100], [0, 0, 0, 0, 100])

    def test_every_section_counts_for_the_mean(self):
        for k in range(40):
            sections = [10] * 40
            sections[k] = 50
            self.check([11, 10, 50], sections)
            sections[k] = 49
            self.check([10, 10, 49], sections)

    def test_the_order_of_sections_does_not_matter(self):
        for sections in itertools.permutations([7, 450, 451, 1000, 0]):
            self.check([381, 0, 1000], list(sections))

    def test_every_small_web(self):
        measures = (0, 1, 2, 500, 501, 999, 1000)
        for length in (1, 2, 3, 4):
            for sections in itertools.product(measures, repeat=length):
                self.check(told(sections), list(sections))

    def test_the_mean_lies_between_least_and_greatest(self):
        for step in range(1, 60):
            sections = [k * step * step % 1001 for k in range(1, 41)]
            mean, least, greatest = spread(sections)
            self.assertTrue(least <= mean <= greatest, sections)
            self.check(told(sections), sections)


class Edges(SpreadCase):
    def test_one_section(self):
        for measured in range(1001):
            self.check([measured] * 3, [measured])

    def test_two_sections(self):
        self.check([4, 3, 5], [3, 5])
        self.check([4, 3, 5], [5, 3])

    def test_all_alike(self):
        for length in range(1, 41):
            self.check([317] * 3, [317] * length)

    def test_all_0(self):
        for length in range(1, 41):
            self.check([0] * 3, [0] * length)

    def test_all_1000(self):
        for length in range(1, 41):
            self.check([1000] * 3, [1000] * length)

    def test_of_0_and_of_1000(self):
        self.check([0, 0, 1], [0] * 39 + [1])
        self.check([25, 0, 1000], [0] * 39 + [1000])
        self.check([999, 999, 1000], [999] + [1000] * 39)
        self.check([975, 0, 1000], [0] + [1000] * 39)

    def test_forty_sections(self):
        self.check([20, 1, 40], list(range(1, 41)))
        self.check([980, 961, 1000], list(range(1000, 960, -1)))

    def test_thirty_nine_sections(self):
        self.check([20, 1, 39], list(range(1, 40)))

    def test_least_first_last_and_more_than_once(self):
        self.check([7, 2, 10], [2, 9, 10])
        self.check([7, 2, 10], [10, 9, 2])
        self.check([7, 2, 10], [9, 2, 10])
        self.check([5, 2, 9], [2, 9, 2, 8, 5])
        self.check([5, 2, 9], [2, 9, 9, 5, 2])
        self.check([4, 2, 9], [2, 2, 9])

    def test_greatest_first_last_and_more_than_once(self):
        self.check([5, 2, 10], [10, 3, 2])
        self.check([5, 2, 10], [2, 3, 10])
        self.check([5, 2, 10], [3, 10, 2])
        self.check([6, 1, 10], [10, 1, 10, 4, 5])
        self.check([6, 1, 10], [10, 1, 5, 4, 10])
        self.check([6, 1, 9], [9, 1, 9])

    def test_one_section_apart_from_all_others(self):
        for k in range(40):
            sections = [600] * 40
            sections[k] = 599
            self.check([599, 599, 600], sections)
            sections[k] = 601
            self.check([600, 600, 601], sections)


class Refused(SpreadCase):
    def test_no_section(self):
        self.check(REFUSAL, [])

    def test_too_many_sections(self):
        for length in (41, 42, 43, 44):
            for measured in (0, 1, 500, 1000):
                self.check(REFUSAL, [measured] * length)

    def test_section_above_1000(self):
        for measured in (1001, 1002, 65536, MOST):
            self.check(REFUSAL, [measured])
            for length in (2, 5, 40):
                for k in range(length):
                    sections = [0] * length
                    sections[k] = measured
                    self.check(REFUSAL, sections)

    def test_all_above_1000(self):
        for length in (1, 2, 40):
            self.check(REFUSAL, [1001] * length)
            self.check(REFUSAL, [MOST] * length)

    def test_several_at_once(self):
        for length in (41, 44):
            for measured in (1001, MOST):
                self.check(REFUSAL, [measured] * length)
                self.check(REFUSAL, [measured] + [500] * (length - 1))
                self.check(REFUSAL, [500] * (length - 1) + [measured])
        self.check(REFUSAL, [1001, MOST, 0])


class SpreadByItself(ByItself, SpreadCase):
    CALLS = (
        ([700, 100, 200, 200],),
        ([10, 11],),
        ([9],),
        ([1000] * 40,),
        (list(range(40, 0, -1)),),
        ([],),
        ([500] * 41,),
        ([500] * 44,),
        ([500, 1001],),
        ([MOST] * 44,),
    )

    def test_a_changed_list_is_read_anew(self):
        sections = [150, 99]
        self.assertEqual(spread(sections), [124, 99, 150])
        sections[1] = 100
        self.assertEqual(spread(sections), [125, 100, 150])
        sections.clear()
        self.assertEqual(spread(sections), REFUSAL)


class SpreadInterface(Interface, SpreadCase):
    PARAMETERS = ("sections",)

    def test_called_by_name(self):
        self.assertEqual(spread(sections=[3, 9]), [6, 3, 9])


if __name__ == "__main__":
    unittest.main()
