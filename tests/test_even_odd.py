"""sn_even and sn_odd: points 1 and 3 of the document."""

import struct
import unittest

from shortpair.desk import sn_even, sn_odd

BFLOAT = 0
HALF = 1

# (the half's bits, the single's bits)
ORDINARY_HALVES = [
    (0x3C00, 0x3F800000),  # 1
    (0xBC00, 0xBF800000),  # -1
    (0x3C01, 0x3F802000),  # the next above 1
    (0xC000, 0xC0000000),  # -2
    (0x3800, 0x3F000000),  # 0.5
    (0x3555, 0x3EAAA000),  # near a third
    (0x4248, 0x40490000),  # 3.140625
    (0xD640, 0xC2C80000),  # -100
    (0x6400, 0x44800000),  # 1024
    (0x2E66, 0x3DCCC000),  # near 0.1
    (0x77FF, 0x46FFE000),
    (0xF800, 0xC7000000),  # -32768
    (0x0800, 0x39000000),
    (0x9234, 0xBA468000),
    (0x5BFF, 0x437FE000),
    (0x4900, 0x41200000),  # 10
]

EDGE_HALVES = {
    "zero": (0x0000, 0x00000000),
    "zero below": (0x8000, 0x80000000),
    "smallest small": (0x0001, 0x33800000),
    "smallest small below": (0x8001, 0xB3800000),
    "second small": (0x0002, 0x34000000),
    "third small": (0x0003, 0x34400000),
    "small with nine bits": (0x01FF, 0x37FF8000),
    "small with the first bit alone": (0x0200, 0x38000000),
    "greatest small": (0x03FF, 0x387FC000),
    "greatest small below": (0x83FF, 0xB87FC000),
    "smallest ordinary": (0x0400, 0x38800000),
    "smallest ordinary below": (0x8400, 0xB8800000),
    "greatest ordinary": (0x7BFF, 0x477FE000),
    "greatest ordinary below": (0xFBFF, 0xC77FE000),
    "infinity": (0x7C00, 0x7F800000),
    "infinity below": (0xFC00, 0xFF800000),
    "no number, first bit not set": (31745, 0x7FC02000),
    "no number below, first bit not set": (64513, 0xFFC02000),
    "no number, all but the first bit": (0x7DFF, 0x7FFFE000),
    "no number below, all but the first bit": (0xFDFF, 0xFFFFE000),
    "no number, first bit alone": (0x7E00, 0x7FC00000),
    "no number below, first bit alone": (0xFE00, 0xFFC00000),
    "no number, first and last bit": (0x7E01, 0x7FC02000),
    "no number, all bits": (0x7FFF, 0x7FFFE000),
    "no number below, all bits": (65535, 0xFFFFE000),
}

ORDINARY_BFLOATS = [
    (0x3F80, 0x3F800000),  # 1
    (0xBF80, 0xBF800000),  # -1
    (0x4000, 0x40000000),  # 2
    (0x4049, 0x40490000),  # 3.140625
    (0xC2C8, 0xC2C80000),  # -100
    (0x3DCD, 0x3DCD0000),
    (0x0080, 0x00800000),  # the smallest ordinary one
    (0x7F7F, 0x7F7F0000),  # the greatest
    (0xFF7F, 0xFF7F0000),
    (0x1234, 0x12340000),
    (0xABCD, 0xABCD0000),
    (0x3C00, 0x3C000000),
    (0x7BFF, 0x7BFF0000),
    (0x4248, 0x42480000),
    (0x5555, 0x55550000),
    (0xAAAA, 0xAAAA0000),
]

EDGE_BFLOATS = {
    "zero": (0x0000, 0x00000000),
    "zero below": (0x8000, 0x80000000),
    "smallest small": (0x0001, 0x00010000),
    "smallest small below": (0x8001, 0x80010000),
    "greatest small": (0x007F, 0x007F0000),
    "greatest small below": (0x807F, 0x807F0000),
    "infinity": (0x7F80, 0x7F800000),
    "infinity below": (0xFF80, 0xFF800000),
    "no number, first bit not set": (0x7F81, 0x7F810000),
    "no number below, first bit not set": (0xFF81, 0xFF810000),
    "no number, first bit alone": (0x7FC0, 0x7FC00000),
    "no number below, first bit alone": (0xFFC0, 0xFFC00000),
    "no number, all bits": (0x7FFF, 0x7FFF0000),
    "no number below, all bits": (65535, 0xFFFF0000),
    "a half's infinity": (0x7C00, 0x7C000000),
}


def in_both(kind, p):
    """What both calls answer, put back into the places of p."""
    answer = [None] * 16
    answer[0::2] = sn_even(kind, p)
    answer[1::2] = sn_odd(kind, p)
    return answer


def half_by_struct(short):
    """The single of a half that is a number or an infinity, by Python's own floats."""
    value = struct.unpack("<e", struct.pack("<H", short))[0]
    return struct.unpack("<I", struct.pack("<f", value))[0]


def wanted_of_half(short):
    if short & 0x7FFF > 0x7C00:
        sign = "1" if short >= 32768 else "0"
        fraction = format(short % 1024, "010b")
        return int(sign + "1" * 8 + "1" + fraction[1:] + "0" * 13, 2)
    return half_by_struct(short)


def blocks_of_sixteen():
    for start in range(0, 65536, 16):
        yield list(range(start, start + 16))


class Unchanging(list):
    """A list that refuses every change, also one that would be undone."""

    def refuse(self, *arguments, **keywords):
        raise AssertionError("the list handed in was changed")

    append = clear = extend = insert = pop = remove = reverse = sort = refuse
    __setitem__ = __delitem__ = __iadd__ = __imul__ = refuse


class Places(unittest.TestCase):
    def check_every_place(self, kind, pairs):
        self.assertEqual(len(pairs), 16)
        for turn in range(16):
            turned = pairs[turn:] + pairs[:turn]
            p = [short for short, single in turned]
            wanted = [single for short, single in turned]
            self.assertEqual(sn_even(kind, p), wanted[0::2])
            self.assertEqual(sn_odd(kind, p), wanted[1::2])

    def test_ordinary_halves_in_every_place(self):
        self.check_every_place(HALF, ORDINARY_HALVES)

    def test_ordinary_bfloats_in_every_place(self):
        self.check_every_place(BFLOAT, ORDINARY_BFLOATS)

    def test_one_number_among_zeros_shows_in_its_place_alone(self):
        for kind, short, single in ((BFLOAT, 0x4049, 0x40490000), (HALF, 0x4248, 0x40490000)):
            for place in range(16):
                p = [0] * 16
                p[place] = short
                wanted = [0] * 16
                wanted[place] = single
                self.assertEqual(in_both(kind, p), wanted)

    def test_even_takes_0_2_to_14_in_order(self):
        self.assertEqual(sn_even(BFLOAT, list(range(16))), [i * 65536 for i in (0, 2, 4, 6, 8, 10, 12, 14)])

    def test_odd_takes_1_3_to_15_in_order(self):
        self.assertEqual(sn_odd(BFLOAT, list(range(16))), [i * 65536 for i in (1, 3, 5, 7, 9, 11, 13, 15)])

    def test_halves_are_taken_in_order_too(self):
        p = [0x3C00 + i for i in range(16)]
        self.assertEqual(sn_even(HALF, p), [0x3F800000 + 8192 * i for i in range(0, 16, 2)])
        self.assertEqual(sn_odd(HALF, p), [0x3F800000 + 8192 * i for i in range(1, 16, 2)])


class Edges(unittest.TestCase):
    def check_edges(self, kind, edges):
        for name, (short, single) in edges.items():
            with self.subTest(name=name, short=short):
                self.assertEqual(sn_even(kind, [short] * 16), [single] * 8)
                self.assertEqual(sn_odd(kind, [short] * 16), [single] * 8)

    def test_halves(self):
        self.check_edges(HALF, EDGE_HALVES)

    def test_bfloats(self):
        self.check_edges(BFLOAT, EDGE_BFLOATS)


class EveryShortNumber(unittest.TestCase):
    def test_every_half(self):
        for p in blocks_of_sixteen():
            self.assertEqual(in_both(HALF, p), [wanted_of_half(short) for short in p])

    def test_every_bfloat(self):
        for p in blocks_of_sixteen():
            self.assertEqual(in_both(BFLOAT, p), [short * 65536 for short in p])


class OtherKinds(unittest.TestCase):
    def test_eight_zeros(self):
        rows = ([0x3C00] * 16, [65535] * 16, [0x8000] * 16, list(range(1, 17)))
        for kind in (-1, 2, 3, -2, 256, 65536, 2147483647, -2147483648):
            for p in rows:
                with self.subTest(kind=kind, p=p):
                    self.assertEqual(sn_even(kind, p), [0] * 8)
                    self.assertEqual(sn_odd(kind, p), [0] * 8)


class Answers(unittest.TestCase):
    def rows(self):
        return [
            [short for short, single in ORDINARY_HALVES],
            [short for short, single in EDGE_HALVES.values()][:16],
            [65535] * 16,
        ]

    def test_a_list_of_eight_whole_numbers_and_nothing_ahead(self):
        for call in (sn_even, sn_odd):
            for kind in (BFLOAT, HALF, 2, -1):
                for p in self.rows():
                    answer = call(kind, p)
                    self.assertIs(type(answer), list)
                    self.assertEqual([type(number) for number in answer], [int] * 8)
                    self.assertTrue(all(0 <= number <= 4294967295 for number in answer))

    def test_what_is_handed_in_stays_the_same(self):
        for call in (sn_even, sn_odd):
            for kind in (BFLOAT, HALF, 2, -1):
                for p in self.rows():
                    before = list(p)
                    call(kind, p)
                    self.assertEqual(p, before)

    def test_what_is_handed_in_is_not_changed_for_a_while_either(self):
        for call in (sn_even, sn_odd):
            for kind in (BFLOAT, HALF, 2, -1):
                for p in self.rows():
                    self.assertEqual(call(kind, Unchanging(p)), call(kind, p))

    def test_a_second_call_answers_the_same(self):
        for call in (sn_even, sn_odd):
            for kind in (BFLOAT, HALF, 2, -1):
                for p in self.rows():
                    first = call(kind, p)
                    kept = list(first)
                    # A changed answer must not show in the next one.
                    first[0] = -7
                    first.append(-7)
                    self.assertEqual(call(kind, p), kept)

    def test_calls_between_change_nothing(self):
        p = self.rows()[0]
        first = sn_even(HALF, p), sn_odd(HALF, p)
        sn_odd(BFLOAT, [65535] * 16)
        sn_even(2, [1] * 16)
        sn_even(BFLOAT, [31745] * 16)
        self.assertEqual((sn_even(HALF, p), sn_odd(HALF, p)), first)


if __name__ == "__main__":
    unittest.main()
