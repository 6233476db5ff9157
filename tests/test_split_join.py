"""sn_split and sn_join: points 1, 2 and 4 of the document."""

import unittest

from helper import BFLOAT, HALF, KINDS, OTHER_KINDS, Unchanging
from helper import narrow_edges, spread_singles, wanted_short, wanted_single, wide_edges
from shortpair.desk import sn_join, sn_split

COUNTS = (1, 2, 3, 4, 7, 8, 9, 255, 256, 257, 4095, 4096)
COUNTS_ABOVE = (4097, 8192, 65536, 65537, 69632, 2147483648, 4294967295)


def shorts(count):
    """As many short numbers, no two alike next to one another."""
    return [(place * 40503 + 77) % 65536 for place in range(count)]


def evens_and_odds(count):
    singles = spread_singles()
    return singles[:count], singles[count : 2 * count]


def wanted_split(kind, a):
    return [0] + [wanted_single(kind, short) for short in a[0::2] + a[1::2]]


def wanted_join(kind, even, odd):
    wanted = [0]
    for pair in zip(even, odd, strict=True):
        wanted += [wanted_short(kind, single) for single in pair]
    return wanted


class Split(unittest.TestCase):
    def test_none(self):
        for kind in KINDS:
            self.assertEqual(sn_split(0, kind, []), [0])

    def test_a_few_by_hand(self):
        self.assertEqual(sn_split(1, BFLOAT, [0x3F80, 0xC000]), [0, 0x3F800000, 0xC0000000])
        self.assertEqual(sn_split(1, HALF, [0x3C00, 0xC000]), [0, 0x3F800000, 0xC0000000])
        self.assertEqual(sn_split(2, BFLOAT, [1, 2, 3, 4]), [0, 1 * 65536, 3 * 65536, 2 * 65536, 4 * 65536])
        self.assertEqual(
            sn_split(3, HALF, [0x3C00, 0x0001, 0x8000, 31745, 0xFC00, 0x4248]),
            [0, 0x3F800000, 0x80000000, 0xFF800000, 0x33800000, 0x7FC02000, 0x40490000],
        )

    def test_every_count_that_matters(self):
        for kind in KINDS:
            for count in COUNTS:
                a = shorts(2 * count)
                answer = sn_split(count, kind, a)
                self.assertEqual(len(answer), 1 + 2 * count)
                self.assertEqual(answer, wanted_split(kind, a))

    def test_every_short_number(self):
        for kind in KINDS:
            for start in range(0, 65536, 8192):
                a = list(range(start, start + 8192))
                self.assertEqual(sn_split(4096, kind, a), wanted_split(kind, a))

    def test_one_number_among_zeros_shows_in_its_place_alone(self):
        for kind, short in ((BFLOAT, 0xC049), (HALF, 0xC248)):
            for place in (0, 1, 2, 3, 4095, 4096, 8190, 8191):
                a = [0] * 8192
                a[place] = short
                wanted = [0] * 8193
                wanted[1 + place // 2 + 4096 * (place % 2)] = 0xC0490000
                self.assertEqual(sn_split(4096, kind, a), wanted)

    def test_every_edge_at_an_even_and_at_an_odd_place(self):
        for kind in KINDS:
            for short, single in wide_edges(kind):
                self.assertEqual(sn_split(2, kind, [0, 0, short, 0]), [0, 0, single, 0, 0])
                self.assertEqual(sn_split(2, kind, [0, 0, 0, short]), [0, 0, 0, 0, single])
                self.assertEqual(sn_split(1, kind, [short, short]), [0, single, single])


class Join(unittest.TestCase):
    def test_none(self):
        for kind in KINDS:
            self.assertEqual(sn_join(0, kind, [], []), [0])

    def test_a_few_by_hand(self):
        self.assertEqual(sn_join(1, BFLOAT, [0x3F808001], [0xC0000000]), [0, 0x3F81, 0xC000])
        self.assertEqual(sn_join(1, HALF, [0x3F801001], [0xC0000000]), [0, 0x3C01, 0xC000])
        self.assertEqual(
            sn_join(2, BFLOAT, [0x3F800000, 2139095039], [1, 2139095041]),
            [0, 0x3F80, 0x0000, 0x7F80, 0x7FC0],
        )
        self.assertEqual(
            sn_join(3, HALF, [0x33000001, 0x40490000, 0xC77FF000], [0x33000000, 0x477FEFFF, 0xFF800001]),
            [0, 0x0001, 0x0000, 0x4248, 0x7BFF, 0xFC00, 0xFE00],
        )

    def test_every_count_that_matters(self):
        for kind in KINDS:
            for count in COUNTS:
                even, odd = evens_and_odds(count)
                answer = sn_join(count, kind, even, odd)
                self.assertEqual(len(answer), 1 + 2 * count)
                self.assertEqual(answer, wanted_join(kind, even, odd))

    def test_one_number_among_zeros_shows_in_its_place_alone(self):
        for kind, short in ((BFLOAT, 0xC049), (HALF, 0xC248)):
            for place in (0, 1, 2, 2048, 4094, 4095):
                row = [0] * 4096
                row[place] = 0xC0490000
                wanted = [0] * 8193
                wanted[1 + 2 * place] = short
                self.assertEqual(sn_join(4096, kind, row, [0] * 4096), wanted)
                wanted = [0] * 8193
                wanted[2 + 2 * place] = short
                self.assertEqual(sn_join(4096, kind, [0] * 4096, row), wanted)

    def test_every_edge_at_an_even_and_at_an_odd_place(self):
        for kind in KINDS:
            for single, short in narrow_edges(kind):
                self.assertEqual(sn_join(2, kind, [0, single], [0, 0]), [0, 0, 0, short, 0])
                self.assertEqual(sn_join(2, kind, [0, 0], [0, single]), [0, 0, 0, 0, short])

    def test_even_and_odd_the_same_list(self):
        for kind in KINDS:
            row = [single for single, short in narrow_edges(kind)]
            made = [short for single, short in narrow_edges(kind)]
            wanted = [0] + [short for short in made for time in range(2)]
            self.assertEqual(sn_join(len(row), kind, row, row), wanted)

    def test_split_then_join(self):
        a = [short for start in (0x0400, 0x8400) for short in range(start, start + 4096)]
        for kind in KINDS:
            singles = sn_split(4096, kind, a)[1:]
            self.assertEqual(sn_join(4096, kind, singles[:4096], singles[4096:]), [0] + a)


class Refusals(unittest.TestCase):
    def test_n_above_4096(self):
        for kind in KINDS + OTHER_KINDS:
            for n in COUNTS_ABOVE:
                self.assertEqual(sn_split(n, kind, []), [-2])
                self.assertEqual(sn_join(n, kind, [], []), [-2])

    def test_other_kinds(self):
        for kind in OTHER_KINDS:
            for n in (0, 1, 2, 3, 16, 4095, 4096):
                even, odd = evens_and_odds(n)
                self.assertEqual(sn_split(n, kind, shorts(2 * n)), [-2])
                self.assertEqual(sn_join(n, kind, even, odd), [-2])


class Answers(unittest.TestCase):
    def cases(self):
        for kind in KINDS + OTHER_KINDS:
            for n in (0, 1, 2, 3, 4096):
                even, odd = evens_and_odds(n)
                yield sn_split, n, kind, [shorts(2 * n)]
                yield sn_join, n, kind, [even, odd]
                yield sn_join, n, kind, [even, even]
            for n in COUNTS_ABOVE:
                yield sn_split, n, kind, [[]]
                yield sn_join, n, kind, [[], []]

    def test_a_list_of_whole_numbers(self):
        for call, n, kind, rows in self.cases():
            answer = call(n, kind, *rows)
            self.assertIs(type(answer), list)
            self.assertEqual({type(number) for number in answer}, {int})

    def test_what_is_handed_in_stays_the_same(self):
        for call, n, kind, rows in self.cases():
            before = [list(row) for row in rows]
            call(n, kind, *rows)
            self.assertEqual(rows, before)

    def test_what_is_handed_in_is_not_changed_for_a_while_either(self):
        for call, n, kind, rows in self.cases():
            self.assertEqual(call(n, kind, *[Unchanging(row) for row in rows]), call(n, kind, *rows))

    def test_one_list_for_both_is_not_changed_for_a_while_either(self):
        for kind in KINDS + OTHER_KINDS:
            row = Unchanging(evens_and_odds(4096)[0])
            kept = list(row)
            self.assertEqual(sn_join(4096, kind, row, row), sn_join(4096, kind, list(kept), list(kept)))
            self.assertEqual(list(row), kept)

    def test_a_second_call_answers_the_same(self):
        for call, n, kind, rows in self.cases():
            first = call(n, kind, *rows)
            kept = list(first)
            # A changed answer must not show in the next one.
            first[0] = -7
            first.append(-7)
            self.assertEqual(call(n, kind, *rows), kept)


if __name__ == "__main__":
    unittest.main()
