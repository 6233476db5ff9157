"""sn_one and sn_short: points 1, 2 and 3 of the document."""

import unittest

from helper import BFLOAT, EDGE_BFLOATS, EDGE_HALVES, HALF, KINDS, NARROW_BFLOATS, NARROW_HALVES, OTHER_KINDS
from helper import Unchanging, around_every_middle, narrow_edges, spread_singles
from helper import wanted_short, wanted_single, wide_edges
from shortpair.desk import sn_one, sn_short


def made_short(kind, singles):
    """Any number of singles made short, eight by eight."""
    answer = []
    for start in range(0, len(singles), 8):
        eight = singles[start : start + 8]
        answer += sn_short(kind, eight + [0] * (8 - len(eight)))
    return answer[: len(singles)]


def is_number(kind, short):
    return short % 32768 < (0x7C00 if kind == HALF else 0x7F80)


def comes_back(kind, short):
    """Whether the document lets the short number be itself again behind both ways."""
    return is_number(kind, short) and (kind == HALF or short % 32768 == 0 or short % 32768 >= 0x80)


class One(unittest.TestCase):
    def test_edges(self):
        for kind, edges in ((BFLOAT, EDGE_BFLOATS), (HALF, EDGE_HALVES)):
            for name, (short, single) in edges.items():
                with self.subTest(kind=kind, name=name):
                    self.assertEqual(sn_one(kind, [short]), [single] * 8)

    def test_ordinary_ones(self):
        for kind in KINDS:
            for short, single in wide_edges(kind):
                self.assertEqual(sn_one(kind, [short]), [single] * 8)

    def test_every_short_number(self):
        for kind in KINDS:
            for short in range(65536):
                self.assertEqual(sn_one(kind, [short]), [wanted_single(kind, short)] * 8)

    def test_other_kinds_give_eight_zeros(self):
        for kind in OTHER_KINDS:
            for short in (0, 1, 0x3C00, 0x8000, 31745, 65535):
                self.assertEqual(sn_one(kind, [short]), [0] * 8)


class ShortEdges(unittest.TestCase):
    def check_rows(self, kind, table):
        for name, rows in table.items():
            for single, short in rows:
                with self.subTest(name=name, single=hex(single)):
                    self.assertEqual(sn_short(kind, [single] * 8), [short] * 8)
                    self.assertEqual(sn_short(kind, [single + 2**31] * 8), [short + 2**15] * 8)

    def test_bfloats(self):
        self.check_rows(BFLOAT, NARROW_BFLOATS)

    def test_halves(self):
        self.check_rows(HALF, NARROW_HALVES)

    def test_the_greatest_singles(self):
        self.assertEqual(sn_short(BFLOAT, [2139095039, 4286578687] * 4), [0x7F80, 0xFF80] * 4)
        self.assertEqual(sn_short(HALF, [2139095039, 4286578687] * 4), [0x7C00, 0xFC00] * 4)

    def test_the_greatest_32_bits(self):
        self.assertEqual(sn_short(BFLOAT, [4294967295] * 8), [65535] * 8)
        self.assertEqual(sn_short(HALF, [4294967295] * 8), [65535] * 8)


class ShortPlaces(unittest.TestCase):
    def test_one_number_among_zeros_shows_in_its_place_alone(self):
        for kind, short in ((BFLOAT, 0xC049), (HALF, 0xC248)):
            for place in range(8):
                x = [0] * 8
                x[place] = 0xC0490000
                wanted = [0] * 8
                wanted[place] = short
                self.assertEqual(sn_short(kind, x), wanted)

    def test_in_order(self):
        self.assertEqual(sn_short(BFLOAT, [(0x3F80 + i) << 16 for i in range(8)]), [0x3F80 + i for i in range(8)])
        self.assertEqual(sn_short(HALF, [0x3F800000 + 8192 * i for i in range(8)]), [0x3C00 + i for i in range(8)])

    def test_every_edge_in_every_place(self):
        for kind in KINDS:
            pairs = narrow_edges(kind)
            for turn in range(8):
                turned = pairs[turn:] + pairs[:turn]
                self.assertEqual(made_short(kind, [single for single, short in turned]), [s for x, s in turned])


class ShortWidely(unittest.TestCase):
    def test_around_every_middle(self):
        for kind in KINDS:
            pairs = list(around_every_middle(kind))
            singles = [single for single, short in pairs]
            shorts = [short for single, short in pairs]
            self.assertEqual(made_short(kind, singles), shorts)
            below = [single + 2**31 for single in singles]
            self.assertEqual(made_short(kind, below), [short + 2**15 for short in shorts])

    def test_singles_of_all_sizes(self):
        singles = spread_singles()
        for kind in KINDS:
            self.assertEqual(made_short(kind, singles), [wanted_short(kind, single) for single in singles])

    def test_bfloats_with_exponent_bits_all_0_give_zeros(self):
        singles = list(range(0, 2**23, 1021))
        self.assertEqual(made_short(BFLOAT, singles), [0] * len(singles))
        self.assertEqual(made_short(BFLOAT, [s + 2**31 for s in singles]), [0x8000] * len(singles))


class BothWays(unittest.TestCase):
    def test_every_short_number_that_is_a_number_comes_back(self):
        for kind in KINDS:
            shorts = [short for short in range(65536) if comes_back(kind, short)]
            self.assertEqual(made_short(kind, [sn_one(kind, [short])[0] for short in shorts]), shorts)

    def test_infinities_come_back(self):
        for kind, infinity in ((BFLOAT, 0x7F80), (HALF, 0x7C00)):
            for short in (infinity, infinity + 32768):
                self.assertEqual(sn_short(kind, sn_one(kind, [short])), [short] * 8)

    def test_small_bfloats_come_back_as_zeros(self):
        for short in range(1, 0x80):
            self.assertEqual(sn_short(BFLOAT, sn_one(BFLOAT, [short])), [0] * 8)
            self.assertEqual(sn_short(BFLOAT, sn_one(BFLOAT, [short + 32768])), [32768] * 8)


class OtherKinds(unittest.TestCase):
    def test_short_gives_eight_zeros(self):
        rows = ([0x3F800000] * 8, [4294967295] * 8, [0x80000000] * 8, list(range(1, 9)))
        for kind in OTHER_KINDS:
            for x in rows:
                with self.subTest(kind=kind, x=x):
                    self.assertEqual(sn_short(kind, x), [0] * 8)


class Answers(unittest.TestCase):
    def cases(self):
        for kind in KINDS + OTHER_KINDS:
            for short in (0, 0x8000, 1, 0x3C00, 0x3F80, 31745, 65535):
                yield sn_one, kind, [short]
            singles = [single for single, short in narrow_edges(HALF)]
            for start in range(0, len(singles) - 7, 8):
                yield sn_short, kind, singles[start : start + 8]

    def test_a_list_of_eight_whole_numbers_and_nothing_ahead(self):
        for call, kind, numbers in self.cases():
            answer = call(kind, numbers)
            self.assertIs(type(answer), list)
            self.assertEqual([type(number) for number in answer], [int] * 8)
            greatest = 65535 if call is sn_short else 4294967295
            self.assertTrue(all(0 <= number <= greatest for number in answer))

    def test_what_is_handed_in_stays_the_same(self):
        for call, kind, numbers in self.cases():
            before = list(numbers)
            call(kind, numbers)
            self.assertEqual(numbers, before)
            self.assertEqual(call(kind, Unchanging(numbers)), call(kind, numbers))

    def test_a_second_call_answers_the_same(self):
        for call, kind, numbers in self.cases():
            first = call(kind, numbers)
            kept = list(first)
            # A changed answer must not show in the next one.
            first[0] = -7
            first.append(-7)
            self.assertEqual(call(kind, numbers), kept)


if __name__ == "__main__":
    unittest.main()
