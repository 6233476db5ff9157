"""A short number made a single, both told by their bits."""

BFLOAT = 0
HALF = 1

HALF_FRACTION_BITS = 0x3FF
HALF_EXPONENT_BITS = 0x1F

SINGLE_FRACTION_BITS = 0x7FFFFF
SINGLE_FIRST_FRACTION_BIT = 0x400000
SINGLE_EXPONENT_BITS = 0x7F800000

# A single's exponent is kept 127 too great, a half's 15.
EXPONENT_SHIFT = 112
# The last bit of a small half weighs 2 to the power of -24: one whose fraction has k bits has the exponent k - 25.
SMALL_EXPONENT_SHIFT = 102


def is_known_kind(kind):
    return kind == BFLOAT or kind == HALF


def small_half_to_single(fraction):
    if fraction == 0:
        return 0
    # Every small half is an ordinary single: its leading bit becomes the one that a single leaves unwritten.
    length = fraction.bit_length()
    exponent = length + SMALL_EXPONENT_SHIFT
    return (exponent << 23) | ((fraction << (24 - length)) & SINGLE_FRACTION_BITS)


def endless_half_to_single(fraction):
    if fraction == 0:
        return SINGLE_EXPONENT_BITS
    return SINGLE_EXPONENT_BITS | SINGLE_FIRST_FRACTION_BIT | (fraction << 13)


def half_to_single(short):
    sign = (short >> 15) << 31
    exponent = (short >> 10) & HALF_EXPONENT_BITS
    fraction = short & HALF_FRACTION_BITS
    if exponent == 0:
        return sign | small_half_to_single(fraction)
    if exponent == HALF_EXPONENT_BITS:
        return sign | endless_half_to_single(fraction)
    return sign | ((exponent + EXPONENT_SHIFT) << 23) | (fraction << 13)


def short_to_single(kind, short):
    if kind == HALF:
        return half_to_single(short)
    return short << 16
