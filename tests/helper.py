"""What several tests share: edges of both ways by their bits, another way to reckon them, a list that can't change."""

import struct

BFLOAT = 0
HALF = 1
KINDS = (BFLOAT, HALF)
OTHER_KINDS = (-1, 2, 3, -2, 256, 65536, 2147483647, -2147483648)

# (the half's bits, the single's bits)
ORDINARY_HALVES = [
    (0x3C00, 0x3F800000),  # 1
    (0xBC00, 0xBF800000),  # -1
    (0x3C01, 0x3F802000),  # the next above 1
    (0xC000, 0xC0000000),  # -2
    (0x3800, 0x3F000000),  # 0.5
    (0x3555, 0x3EAAA000),  # near a third
    (0x4248, 0x40490000),  # 3.140625
    (0xD640, 0xC2C80000),  # -100
    (0x6400, 0x44800000),  # 1024
    (0x2E66, 0x3DCCC000),  # near 0.1
    (0x77FF, 0x46FFE000),
    (0xF800, 0xC7000000),  # -32768
    (0x0800, 0x39000000),
    (0x9234, 0xBA468000),
    (0x5BFF, 0x437FE000),
    (0x4900, 0x41200000),  # 10
]

EDGE_HALVES = {
    "zero": (0x0000, 0x00000000),
    "zero below": (0x8000, 0x80000000),
    "smallest small": (0x0001, 0x33800000),
    "smallest small below": (0x8001, 0xB3800000),
    "second small": (0x0002, 0x34000000),
    "third small": (0x0003, 0x34400000),
    "small with nine bits": (0x01FF, 0x37FF8000),
    "small with the first bit alone": (0x0200, 0x38000000),
    "greatest small": (0x03FF, 0x387FC000),
    "greatest small below": (0x83FF, 0xB87FC000),
    "smallest ordinary": (0x0400, 0x38800000),
    "smallest ordinary below": (0x8400, 0xB8800000),
    "greatest ordinary": (0x7BFF, 0x477FE000),
    "greatest ordinary below": (0xFBFF, 0xC77FE000),
    "infinity": (0x7C00, 0x7F800000),
    "infinity below": (0xFC00, 0xFF800000),
    "no number, first bit not set": (31745, 0x7FC02000),
    "no number below, first bit not set": (64513, 0xFFC02000),
    "no number, all but the first bit": (0x7DFF, 0x7FFFE000),
    "no number below, all but the first bit": (0xFDFF, 0xFFFFE000),
    "no number, first bit alone": (0x7E00, 0x7FC00000),
    "no number below, first bit alone": (0xFE00, 0xFFC00000),
    "no number, first and last bit": (0x7E01, 0x7FC02000),
    "no number, all bits": (0x7FFF, 0x7FFFE000),
    "no number below, all bits": (65535, 0xFFFFE000),
}

ORDINARY_BFLOATS = [
    (0x3F80, 0x3F800000),  # 1
    (0xBF80, 0xBF800000),  # -1
    (0x4000, 0x40000000),  # 2
    (0x4049, 0x40490000),  # 3.140625
    (0xC2C8, 0xC2C80000),  # -100
    (0x3DCD, 0x3DCD0000),
    (0x0080, 0x00800000),  # the smallest ordinary one
    (0x7F7F, 0x7F7F0000),  # the greatest
    (0xFF7F, 0xFF7F0000),
    (0x1234, 0x12340000),
    (0xABCD, 0xABCD0000),
    (0x3C00, 0x3C000000),
    (0x7BFF, 0x7BFF0000),
    (0x4248, 0x42480000),
    (0x5555, 0x55550000),
    (0xAAAA, 0xAAAA0000),
]

EDGE_BFLOATS = {
    "zero": (0x0000, 0x00000000),
    "zero below": (0x8000, 0x80000000),
    "smallest small": (0x0001, 0x00010000),
    "smallest small below": (0x8001, 0x80010000),
    "greatest small": (0x007F, 0x007F0000),
    "greatest small below": (0x807F, 0x807F0000),
    "infinity": (0x7F80, 0x7F800000),
    "infinity below": (0xFF80, 0xFF800000),
    "no number, first bit not set": (0x7F81, 0x7F810000),
    "no number below, first bit not set": (0xFF81, 0xFF810000),
    "no number, first bit alone": (0x7FC0, 0x7FC00000),
    "no number below, first bit alone": (0xFFC0, 0xFFC00000),
    "no number, all bits": (0x7FFF, 0x7FFF0000),
    "no number below, all bits": (65535, 0xFFFF0000),
    "a half's infinity": (0x7C00, 0x7C000000),
}


def half_by_struct(short):
    """The single of a half that is a number or an infinity, by Python's own floats."""
    value = struct.unpack("<e", struct.pack("<H", short))[0]
    return struct.unpack("<I", struct.pack("<f", value))[0]


def wanted_of_half(short):
    if short & 0x7FFF > 0x7C00:
        sign = "1" if short >= 32768 else "0"
        fraction = format(short % 1024, "010b")
        return int(sign + "1" * 8 + "1" + fraction[1:] + "0" * 13, 2)
    return half_by_struct(short)


class Unchanging(list):
    """A list that refuses every change, also one that would be undone."""

    def refuse(self, *arguments, **keywords):
        raise AssertionError("the list handed in was changed")

    append = clear = extend = insert = pop = remove = reverse = sort = refuse
    __setitem__ = __delitem__ = __iadd__ = __imul__ = refuse


# Singles of sign 0 made bfloat16: (the single's bits, the bfloat16's bits).
NARROW_BFLOATS = {
    "zero": [(0x00000000, 0x0000)],
    "exponent bits all 0, with fraction": [
        (1, 0x0000),
        (0x00008001, 0x0000),
        (0x00010000, 0x0000),
        (0x00400000, 0x0000),
        (0x007F8000, 0x0000),
        (8388607, 0x0000),
    ],
    "smallest ordinary": [
        (0x00800000, 0x0080),
        (0x00807FFF, 0x0080),
        (0x00808000, 0x0080),
        (0x00808001, 0x0081),
    ],
    "as they are": [(0x3F800000, 0x3F80), (0x40490000, 0x4049), (0x7F7F0000, 0x7F7F), (0x12350000, 0x1235)],
    "middle, the lower one even": [
        (0x3F800001, 0x3F80),
        (0x3F807FFF, 0x3F80),
        (0x3F808000, 0x3F80),
        (0x3F808001, 0x3F81),
        (0x3F80FFFF, 0x3F81),
    ],
    "middle, the lower one odd": [
        (0x3F810001, 0x3F81),
        (0x3F817FFF, 0x3F81),
        (0x3F818000, 0x3F82),
        (0x3F818001, 0x3F82),
        (0x3F81FFFF, 0x3F82),
    ],
    "carry into the exponent": [
        (0x3FFF7FFF, 0x3FFF),
        (0x3FFF8000, 0x4000),
        (0x3FFF8001, 0x4000),
        (0x3FFFFFFF, 0x4000),
    ],
    "past the greatest": [
        (0x7F7F7FFF, 0x7F7F),
        (0x7F7F8000, 0x7F80),
        (0x7F7F8001, 0x7F80),
        (2139095039, 0x7F80),
    ],
    "infinity": [(0x7F800000, 0x7F80)],
    "no number, first bit not set": [
        (2139095041, 0x7FC0),
        (0x7F808000, 0x7FC0),
        (0x7F80FFFF, 0x7FC0),
        (0x7F810000, 0x7FC1),
        (0x7FA5FFFF, 0x7FE5),
        (0x7FBFFFFF, 0x7FFF),
    ],
    "no number, first bit set": [
        (0x7FC00000, 0x7FC0),
        (0x7FC00001, 0x7FC0),
        (0x7FC0FFFF, 0x7FC0),
        (0x7FC18000, 0x7FC1),
        (0x7FFFFFFF, 0x7FFF),
    ],
}

# Singles of sign 0 made halves: (the single's bits, the half's bits).
NARROW_HALVES = {
    "zero": [(0x00000000, 0x0000)],
    "far below the smallest": [
        (1, 0x0000),
        (8388607, 0x0000),
        (0x00800000, 0x0000),
        (0x0FFFFFFF, 0x0000),
        (0x32000000, 0x0000),
        (0x327FFFFF, 0x0000),
        (0x32800000, 0x0000),
    ],
    "middle between 0 and the smallest": [
        (0x32FFFFFF, 0x0000),
        (0x33000000, 0x0000),
        (0x33000001, 0x0001),
        (0x337FFFFF, 0x0001),
    ],
    "smallest": [(0x33800000, 0x0001), (0x33800001, 0x0001)],
    "middle of small ones, the lower one odd": [
        (0x33BFFFFF, 0x0001),
        (0x33C00000, 0x0002),
        (0x33C00001, 0x0002),
        (0x345FFFFF, 0x0003),
        (0x34600000, 0x0004),
        (0x34600001, 0x0004),
    ],
    "middle of small ones, the lower one even": [
        (0x341FFFFF, 0x0002),
        (0x34200000, 0x0002),
        (0x34200001, 0x0003),
        (0x387F9FFF, 0x03FE),
        (0x387FA000, 0x03FE),
        (0x387FA001, 0x03FF),
    ],
    "from the greatest small one to the smallest ordinary one": [
        (0x387FC000, 0x03FF),
        (0x387FDFFF, 0x03FF),
        (0x387FE000, 0x0400),
        (0x387FE001, 0x0400),
        (0x387FFFFF, 0x0400),
        (0x38800000, 0x0400),
        (0x38800FFF, 0x0400),
        (0x38801000, 0x0400),
        (0x38801001, 0x0401),
    ],
    "as they are": [(0x3F800000, 0x3C00), (0x40490000, 0x4248), (0x3EAAA000, 0x3555), (0x477FE000, 0x7BFF)],
    "middle of ordinary ones, the lower one even": [
        (0x3F800001, 0x3C00),
        (0x3F800FFF, 0x3C00),
        (0x3F801000, 0x3C00),
        (0x3F801001, 0x3C01),
        (0x3F801FFF, 0x3C01),
    ],
    "middle of ordinary ones, the lower one odd": [
        (0x3F802001, 0x3C01),
        (0x3F802FFF, 0x3C01),
        (0x3F803000, 0x3C02),
        (0x3F803001, 0x3C02),
        (0x3F803FFF, 0x3C02),
    ],
    "carry into the exponent": [
        (0x3FFFEFFF, 0x3FFF),
        (0x3FFFF000, 0x4000),
        (0x3FFFF001, 0x4000),
        (0x3FFFFFFF, 0x4000),
    ],
    "past the greatest": [
        (0x477FE000, 0x7BFF),  # 65504
        (0x477FEFFF, 0x7BFF),
        (0x477FF000, 0x7C00),  # 65520
        (0x477FF001, 0x7C00),
        (0x477FFFFF, 0x7C00),
        (0x47800000, 0x7C00),  # 65536
        (0x47800001, 0x7C00),
        (0x48000000, 0x7C00),
        (0x501502F9, 0x7C00),
        (2139095039, 0x7C00),
    ],
    "infinity": [(0x7F800000, 0x7C00)],
    "no number, upper ten fraction bits 0": [
        (2139095041, 0x7E00),
        (0x7F801000, 0x7E00),
        (0x7F801FFF, 0x7E00),
    ],
    "no number, upper ten fraction bits not 0": [
        (0x7F802000, 0x7E01),
        (0x7F803FFF, 0x7E01),
        (0x7FA54321, 0x7F2A),
        (0x7FBFFFFF, 0x7FFF),
        (0x7FC00000, 0x7E00),
        (0x7FC01FFF, 0x7E00),
        (0x7FC02000, 0x7E01),
        (0x7FFFFFFF, 0x7FFF),
    ],
}


def narrow_edges(kind):
    """Every edge of a single made short, of both signs: (the single's bits, the short one's bits)."""
    pairs = []
    for rows in (NARROW_HALVES if kind == HALF else NARROW_BFLOATS).values():
        for single, short in rows:
            pairs += [(single, short), (single + 2**31, short + 2**15)]
    return pairs


def wide_edges(kind):
    """Every edge of a short number made a single: (the short one's bits, the single's bits)."""
    if kind == HALF:
        return ORDINARY_HALVES + list(EDGE_HALVES.values())
    return ORDINARY_BFLOATS + list(EDGE_BFLOATS.values())


def wanted_single(kind, short):
    return wanted_of_half(short) if kind == HALF else short * 65536


def value_of_single(single):
    return struct.unpack("<f", struct.pack("<I", single))[0]


def size_of_short(kind, short):
    """The value of a short number of sign 0; the infinity stands for the number behind the greatest."""
    if kind == HALF:
        return 65536.0 if short == 0x7C00 else struct.unpack("<e", struct.pack("<H", short))[0]
    return 2.0**128 if short == 0x7F80 else value_of_single(short * 65536)


def size_of_single(single):
    """The value of a single of sign 0; the infinity stands for the number behind the greatest."""
    return 2.0**128 if single == 0x7F800000 else value_of_single(single)


def wanted_short(kind, single):
    """The single made short, found by halving among the values of all short numbers."""
    sign, size = divmod(single, 2**31)
    infinity, fraction_bits = (0x7C00, 10) if kind == HALF else (0x7F80, 7)
    if size > 0x7F800000:
        upper = format(size % 2**23, "023b")[:fraction_bits]
        return sign * 2**15 + infinity + int("1" + upper[1:], 2)
    if kind == BFLOAT and size < 2**23:
        return sign * 2**15
    value = size_of_single(size)
    low, high = 0, infinity
    while high - low > 1:
        between = (low + high) // 2
        if size_of_short(kind, between) <= value:
            low = between
        else:
            high = between
    # Of two short numbers beside one another the middle is exact among Python's floats.
    middle = size_of_short(kind, low) / 2 + size_of_short(kind, high) / 2
    if value == middle:
        return sign * 2**15 + low + low % 2
    return sign * 2**15 + (low if value < middle else high)


def single_of_size(value):
    return struct.unpack("<I", struct.pack("<f", value))[0]


def around_every_middle(kind):
    """For every two short numbers beside one another: the singles at, beside and between them, and what each gives.

    Both are of sign 0; of bfloat16 those with exponent bits all 0 are left out.
    """
    first, infinity = (0, 0x7C00) if kind == HALF else (0x80, 0x7F80)
    for low in range(first, infinity):
        high = low + 1
        middle = single_of_size(size_of_short(kind, low) / 2 + size_of_short(kind, high) / 2)
        yield wanted_single(kind, low), low
        yield middle - 1, low
        yield middle, low + low % 2
        yield middle + 1, high
        yield wanted_single(kind, high) - 1, high


def spread_singles():
    """Singles spread over all 32 bits, each sign, exponent and many a fraction among them."""
    return [(place * 2654435761 + 12345) % 2**32 for place in range(20000)]
