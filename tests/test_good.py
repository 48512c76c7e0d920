"""Tests of paperweb.rolls.good: promise 1, what it says of all calls and of good."""

import itertools
import unittest

from helpers import MOST, REFUSAL, AnswerCase, ByItself, Interface
from paperweb.rolls import good


def told(lo, hi, sections):
    """What the document asks for, said another way than the program says it."""
    which = [k for k, measured in enumerate(sections) if measured in range(lo, hi + 1)]
    return [len(which), sum(2 ** k for k in which)]


class GoodCase(AnswerCase):
    ASK = good


class Ordinary(GoodCase):
    def test_good_and_bad_mixed(self):
        self.check([3, 0b01101], 100, 200, [150, 99, 100, 200, 201])
        self.check([2, 0b10010], 100, 200, [0, 120, 300, 1000, 180])
        self.check([4, 0b1101001], 490, 510, [500, 480, 520, 505, 511, 490, 510])

    def test_bit_0_stands_for_the_first(self):
        self.check([1, 1], 5, 6, [5, 0, 0, 0])
        self.check([1, 8], 5, 6, [0, 0, 0, 6])

    def test_each_section_has_its_own_bit(self):
        for k in range(40):
            sections = [7] * 40
            sections[k] = 300
            self.check([1, 2 ** k], 100, 400, sections)

    def test_like_measures_are_each_counted(self):
        self.check([3, 0b10101], 30, 40, [33, 20, 33, 20, 33])

    def test_every_small_web(self):
        around = (0, 9, 10, 11, 12, 13, 1000)
        for length in (1, 2, 3, 4):
            for sections in itertools.product(around, repeat=length):
                self.check(told(10, 12, sections), 10, 12, list(sections))

    def test_every_pair_of_limits_around_a_web(self):
        sections = [3, 0, 5, 1, 4, 2, 3, 1000]
        for lo, hi in itertools.product(range(7), repeat=2):
            expected = told(lo, hi, sections) if lo <= hi else REFUSAL
            self.check(expected, lo, hi, sections)

    def test_with_wider_limits_what_was_good_is_so(self):
        sections = [0, 100, 199, 200, 250, 300, 301, 400, 999, 1000]
        bits_before = 0
        for wider in range(0, 201):
            bits = good(200 - wider, 300 + 3 * wider, sections)[1]
            self.assertEqual(bits & bits_before, bits_before)
            bits_before = bits


class Edges(GoodCase):
    def test_one_section(self):
        self.check([1, 1], 10, 20, [15])
        self.check([0, 0], 10, 20, [9])
        self.check([0, 0], 10, 20, [21])

    def test_all_bad(self):
        self.check([0, 0], 10, 20, [9, 21, 0, 1000])
        self.check([0, 0], 10, 20, [21] * 40)

    def test_all_good(self):
        self.check([5, 0b11111], 10, 20, [10, 11, 15, 19, 20])

    def test_forty_sections(self):
        self.check([40, 1099511627775], 0, 1000, [500] * 40)
        self.check([20, 733007751850], 50, 60, [10, 55] * 20)
        self.check([1, 549755813888], 50, 60, [10] * 39 + [55])

    def test_bits_above_four_bytes(self):
        self.check([1, 4294967296], 50, 60, [10] * 32 + [55])
        self.check([33, 8589934591], 50, 60, [55] * 33)

    def test_thirty_nine_sections(self):
        self.check([39, 549755813887], 0, 1000, [1000] * 39)

    def test_just_lo_and_just_hi(self):
        self.check([1, 1], 300, 400, [300])
        self.check([1, 1], 300, 400, [400])

    def test_outside_by_one(self):
        self.check([0, 0], 300, 400, [299])
        self.check([0, 0], 300, 400, [401])
        self.check([2, 0b0110], 300, 400, [299, 300, 400, 401])

    def test_lo_and_hi_the_same(self):
        self.check([1, 0b010], 300, 300, [299, 300, 301])
        self.check([1, 0b01], 0, 0, [0, 1])
        self.check([1, 0b10], 1000, 1000, [999, 1000])

    def test_widest_limits(self):
        self.check([4, 0b1111], 0, 1000, [0, 1, 999, 1000])

    def test_sections_of_0_and_of_1000(self):
        self.check([0, 0], 1, 999, [0, 1000])
        self.check([1, 0b01], 0, 999, [0, 1000])
        self.check([1, 0b10], 1, 1000, [0, 1000])


class Refused(GoodCase):
    def test_no_section(self):
        self.check(REFUSAL, 0, 1000, [])

    def test_too_many_sections(self):
        for length in (41, 42, 43, 44):
            self.check(REFUSAL, 0, 1000, [500] * length)
            self.check(REFUSAL, 0, 100, [500] * length)

    def test_section_above_1000(self):
        for measured in (1001, 1002, 65536, MOST):
            self.check(REFUSAL, 0, 1000, [measured])
            for k in range(5):
                sections = [500] * 5
                sections[k] = measured
                self.check(REFUSAL, 400, 600, sections)

    def test_lo_above_hi(self):
        self.check(REFUSAL, 501, 500, [500])
        self.check(REFUSAL, 1, 0, [0, 1])
        self.check(REFUSAL, 1000, 0, [500])
        self.check(REFUSAL, 1001, 1000, [1000])
        self.check(REFUSAL, MOST, 1000, [1000])

    def test_hi_above_1000(self):
        for hi in (1001, 1002, 65536, MOST):
            self.check(REFUSAL, 0, hi, [500])
            self.check(REFUSAL, 1000, hi, [500, 1000])
            self.check(REFUSAL, hi, hi, [500])

    def test_several_at_once(self):
        webs = ([], [500] * 41, [MOST] * 44, [1001], [500, MOST])
        limits = ((501, 500), (0, 1001), (1002, 1001), (MOST, 0), (MOST, MOST), (0, MOST))
        for sections, (lo, hi) in itertools.product(webs, limits):
            self.check(REFUSAL, lo, hi, sections)


class GoodByItself(ByItself, GoodCase):
    CALLS = (
        (100, 200, [150, 99, 100, 200, 201]),
        (0, 1000, [500] * 40),
        (10, 20, [9]),
        (0, 1000, []),
        (0, 1000, [500] * 44),
        (0, 1000, [500, 1001]),
        (501, 500, [500]),
        (0, MOST, [500]),
    )

    def test_a_changed_list_is_read_anew(self):
        sections = [150, 99]
        self.assertEqual(good(100, 200, sections), [1, 1])
        sections[1] = 100
        self.assertEqual(good(100, 200, sections), [2, 3])
        sections.clear()
        self.assertEqual(good(100, 200, sections), REFUSAL)


class GoodInterface(Interface, GoodCase):
    PARAMETERS = ("lo", "hi", "sections")

    def test_called_by_names(self):
        self.assertEqual(good(sections=[3, 9], hi=5, lo=2), [1, 1])


if __name__ == "__main__":
    unittest.main()
