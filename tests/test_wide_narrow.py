"""sn_wide and sn_narrow: points 1, 2 and 4 of the document."""

import unittest

from helper import BFLOAT, HALF, KINDS, OTHER_KINDS, Unchanging
from helper import narrow_edges, spread_singles, wanted_short, wanted_single, wide_edges
from shortpair.desk import sn_narrow, sn_wide


def edges_of(call, kind):
    return wide_edges(kind) if call is sn_wide else narrow_edges(kind)


def wanted_of(call, kind, numbers):
    one_by_one = wanted_single if call is sn_wide else wanted_short
    return [0] + [one_by_one(kind, number) for number in numbers]


def numbers_for(call, count):
    """As many numbers for the call, no two alike next to one another."""
    if call is sn_wide:
        return [(place * 40503 + 77) % 65536 for place in range(count)]
    return spread_singles()[:count]


CALLS = (sn_wide, sn_narrow)


class Rows(unittest.TestCase):
    def test_the_empty_list(self):
        for call in CALLS:
            for kind in KINDS:
                self.assertEqual(call(kind, []), [0])

    def test_a_few_by_hand(self):
        self.assertEqual(sn_wide(BFLOAT, [0x4049]), [0, 0x40490000])
        self.assertEqual(sn_wide(HALF, [0x3C00]), [0, 0x3F800000])
        self.assertEqual(sn_wide(BFLOAT, [0x3F80, 0x8000]), [0, 0x3F800000, 0x80000000])
        self.assertEqual(sn_wide(HALF, [0xC000, 0x0001]), [0, 0xC0000000, 0x33800000])
        self.assertEqual(sn_wide(BFLOAT, [1, 2, 3]), [0, 65536, 131072, 196608])
        self.assertEqual(sn_wide(HALF, [0x3C00, 31745, 0xFC00]), [0, 0x3F800000, 0x7FC02000, 0xFF800000])
        self.assertEqual(sn_narrow(BFLOAT, [0x3F808001]), [0, 0x3F81])
        self.assertEqual(sn_narrow(HALF, [0x3F801001]), [0, 0x3C01])
        self.assertEqual(sn_narrow(BFLOAT, [2139095039, 2139095041]), [0, 0x7F80, 0x7FC0])
        self.assertEqual(sn_narrow(HALF, [0x33000001, 0x33000000]), [0, 0x0001, 0x0000])
        self.assertEqual(sn_narrow(BFLOAT, [0x3F818000, 0x80000001, 0xC0490000]), [0, 0x3F82, 0x8000, 0xC049])
        self.assertEqual(sn_narrow(HALF, [0xC77FF000, 0x40490000, 0x477FEFFF]), [0, 0xFC00, 0x4248, 0x7BFF])

    def test_every_length_that_counts(self):
        for call in CALLS:
            for kind in KINDS:
                for count in (1, 2, 3, 4, 7, 8, 9, 16, 17, 255, 256, 257, 4095, 4096):
                    numbers = numbers_for(call, count)
                    answer = call(kind, numbers)
                    self.assertEqual(len(answer), count + 1)
                    self.assertEqual(answer, wanted_of(call, kind, numbers))

    def test_one_number_among_zeros_shows_in_its_place_alone(self):
        for call, kind, number, made in (
            (sn_wide, BFLOAT, 0xC049, 0xC0490000),
            (sn_wide, HALF, 0xC248, 0xC0490000),
            (sn_narrow, BFLOAT, 0xC0490000, 0xC049),
            (sn_narrow, HALF, 0xC0490000, 0xC248),
        ):
            for place in (0, 1, 2, 100, 4094, 4095):
                numbers = [0] * 4096
                numbers[place] = number
                wanted = [0] * 4097
                wanted[place + 1] = made
                self.assertEqual(call(kind, numbers), wanted)

    def test_every_short_number(self):
        for kind in KINDS:
            for start in range(0, 65536, 4096):
                numbers = list(range(start, start + 4096))
                self.assertEqual(sn_wide(kind, numbers), wanted_of(sn_wide, kind, numbers))

    def test_wide_then_narrow(self):
        numbers = [short for start in (0x0400, 0x8400) for short in range(start, start + 2048)]
        for kind in KINDS:
            self.assertEqual(sn_narrow(kind, sn_wide(kind, numbers)[1:]), [0] + numbers)


class Edges(unittest.TestCase):
    def test_every_edge_in_a_longer_list(self):
        for call in CALLS:
            for kind in KINDS:
                pairs = edges_of(call, kind)
                for turn in (0, 1, len(pairs) // 2, len(pairs) - 1):
                    turned = pairs[turn:] + pairs[:turn]
                    answer = call(kind, [given for given, made in turned])
                    self.assertEqual(answer, [0] + [made for given, made in turned])

    def test_every_edge_at_the_last_place(self):
        for call in CALLS:
            for kind in KINDS:
                for given, made in edges_of(call, kind):
                    self.assertEqual(call(kind, [0, 0, given]), [0, 0, 0, made])


class Refusals(unittest.TestCase):
    def test_other_kinds(self):
        for call in CALLS:
            for kind in OTHER_KINDS:
                for count in (0, 1, 2, 3, 16, 4096):
                    self.assertEqual(call(kind, numbers_for(call, count)), [-2])

    def test_a_list_longer_than_4096(self):
        for call in CALLS:
            for kind in KINDS + OTHER_KINDS:
                for count in (4097, 8192):
                    self.assertEqual(call(kind, numbers_for(call, count)), [-2])


class Answers(unittest.TestCase):
    def cases(self):
        for call in CALLS:
            for kind in KINDS + OTHER_KINDS:
                for count in (0, 1, 2, 3, 4096):
                    yield call, kind, numbers_for(call, count)
                yield call, kind, [given for given, made in edges_of(call, HALF)]

    def test_a_list_of_whole_numbers(self):
        for call, kind, numbers in self.cases():
            answer = call(kind, numbers)
            self.assertIs(type(answer), list)
            self.assertEqual({type(number) for number in answer}, {int})

    def test_what_is_handed_in_stays_the_same(self):
        for call, kind, numbers in self.cases():
            before = list(numbers)
            call(kind, numbers)
            self.assertEqual(numbers, before)
            self.assertEqual(call(kind, Unchanging(numbers)), call(kind, numbers))

    def test_a_second_call_answers_the_same(self):
        for call, kind, numbers in self.cases():
            first = call(kind, numbers)
            kept = list(first)
            # A changed answer must not show in the next one.
            first[0] = -7
            first.append(-7)
            self.assertEqual(call(kind, numbers), kept)


if __name__ == "__main__":
    unittest.main()
