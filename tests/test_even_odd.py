"""sn_even and sn_odd: points 1 and 3 of the document."""

import unittest

from helper import BFLOAT, EDGE_BFLOATS, EDGE_HALVES, HALF, ORDINARY_BFLOATS, ORDINARY_HALVES, OTHER_KINDS
from helper import Unchanging, wanted_of_half
from shortpair.desk import sn_even, sn_odd


def in_both(kind, p):
    """What both calls answer, put back into the places of p."""
    answer = [None] * 16
    answer[0::2] = sn_even(kind, p)
    answer[1::2] = sn_odd(kind, p)
    return answer


def blocks_of_sixteen():
    for start in range(0, 65536, 16):
        yield list(range(start, start + 16))


class Places(unittest.TestCase):
    def check_every_place(self, kind, pairs):
        self.assertEqual(len(pairs), 16)
        for turn in range(16):
            turned = pairs[turn:] + pairs[:turn]
            p = [short for short, single in turned]
            wanted = [single for short, single in turned]
            self.assertEqual(sn_even(kind, p), wanted[0::2])
            self.assertEqual(sn_odd(kind, p), wanted[1::2])

    def test_ordinary_halves_in_every_place(self):
        self.check_every_place(HALF, ORDINARY_HALVES)

    def test_ordinary_bfloats_in_every_place(self):
        self.check_every_place(BFLOAT, ORDINARY_BFLOATS)

    def test_one_number_among_zeros_shows_in_its_place_alone(self):
        for kind, short, single in ((BFLOAT, 0x4049, 0x40490000), (HALF, 0x4248, 0x40490000)):
            for place in range(16):
                p = [0] * 16
                p[place] = short
                wanted = [0] * 16
                wanted[place] = single
                self.assertEqual(in_both(kind, p), wanted)

    def test_even_takes_0_2_to_14_in_order(self):
        self.assertEqual(sn_even(BFLOAT, list(range(16))), [i * 65536 for i in (0, 2, 4, 6, 8, 10, 12, 14)])

    def test_odd_takes_1_3_to_15_in_order(self):
        self.assertEqual(sn_odd(BFLOAT, list(range(16))), [i * 65536 for i in (1, 3, 5, 7, 9, 11, 13, 15)])

    def test_halves_are_taken_in_order_too(self):
        p = [0x3C00 + i for i in range(16)]
        self.assertEqual(sn_even(HALF, p), [0x3F800000 + 8192 * i for i in range(0, 16, 2)])
        self.assertEqual(sn_odd(HALF, p), [0x3F800000 + 8192 * i for i in range(1, 16, 2)])


class Edges(unittest.TestCase):
    def check_edges(self, kind, edges):
        for name, (short, single) in edges.items():
            with self.subTest(name=name, short=short):
                self.assertEqual(sn_even(kind, [short] * 16), [single] * 8)
                self.assertEqual(sn_odd(kind, [short] * 16), [single] * 8)

    def test_halves(self):
        self.check_edges(HALF, EDGE_HALVES)

    def test_bfloats(self):
        self.check_edges(BFLOAT, EDGE_BFLOATS)


class EveryShortNumber(unittest.TestCase):
    def test_every_half(self):
        for p in blocks_of_sixteen():
            self.assertEqual(in_both(HALF, p), [wanted_of_half(short) for short in p])

    def test_every_bfloat(self):
        for p in blocks_of_sixteen():
            self.assertEqual(in_both(BFLOAT, p), [short * 65536 for short in p])


class OtherKinds(unittest.TestCase):
    def test_eight_zeros(self):
        rows = ([0x3C00] * 16, [65535] * 16, [0x8000] * 16, list(range(1, 17)))
        for kind in OTHER_KINDS:
            for p in rows:
                with self.subTest(kind=kind, p=p):
                    self.assertEqual(sn_even(kind, p), [0] * 8)
                    self.assertEqual(sn_odd(kind, p), [0] * 8)


class Answers(unittest.TestCase):
    def rows(self):
        return [
            [short for short, single in ORDINARY_HALVES],
            [short for short, single in EDGE_HALVES.values()][:16],
            [65535] * 16,
        ]

    def test_a_list_of_eight_whole_numbers_and_nothing_ahead(self):
        for call in (sn_even, sn_odd):
            for kind in (BFLOAT, HALF, 2, -1):
                for p in self.rows():
                    answer = call(kind, p)
                    self.assertIs(type(answer), list)
                    self.assertEqual([type(number) for number in answer], [int] * 8)
                    self.assertTrue(all(0 <= number <= 4294967295 for number in answer))

    def test_what_is_handed_in_stays_the_same(self):
        for call in (sn_even, sn_odd):
            for kind in (BFLOAT, HALF, 2, -1):
                for p in self.rows():
                    before = list(p)
                    call(kind, p)
                    self.assertEqual(p, before)

    def test_what_is_handed_in_is_not_changed_for_a_while_either(self):
        for call in (sn_even, sn_odd):
            for kind in (BFLOAT, HALF, 2, -1):
                for p in self.rows():
                    self.assertEqual(call(kind, Unchanging(p)), call(kind, p))

    def test_a_second_call_answers_the_same(self):
        for call in (sn_even, sn_odd):
            for kind in (BFLOAT, HALF, 2, -1):
                for p in self.rows():
                    first = call(kind, p)
                    kept = list(first)
                    # A changed answer must not show in the next one.
                    first[0] = -7
                    first.append(-7)
                    self.assertEqual(call(kind, p), kept)

    def test_calls_between_change_nothing(self):
        p = self.rows()[0]
        first = sn_even(HALF, p), sn_odd(HALF, p)
        sn_odd(BFLOAT, [65535] * 16)
        sn_even(2, [1] * 16)
        sn_even(BFLOAT, [31745] * 16)
        self.assertEqual((sn_even(HALF, p), sn_odd(HALF, p)), first)


if __name__ == "__main__":
    unittest.main()
