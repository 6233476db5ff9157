"""A short number made a single, both told by their bits."""

from shortpair.forms import EXPONENT_SHIFT, HALF, HALF_EXPONENT_BITS, HALF_FRACTION_BITS
from shortpair.forms import SINGLE_EXPONENT_BITS, SINGLE_FIRST_FRACTION_BIT, SINGLE_FRACTION_BITS

# The last bit of a small half weighs 2 to the power of -24: one whose fraction has k bits has the exponent k - 25.
SMALL_EXPONENT_SHIFT = 102


def small_half_to_single(fraction):
    if fraction == 0:
        return 0
    # Every small half is an ordinary single: its leading bit becomes the one that a single leaves unwritten.
    length = fraction.bit_length()
    exponent = length + SMALL_EXPONENT_SHIFT
    return (exponent << 23) | ((fraction << (24 - length)) & SINGLE_FRACTION_BITS)


def endless_half_to_single(fraction):
    if fraction == 0:
        return SINGLE_EXPONENT_BITS
    return SINGLE_EXPONENT_BITS | SINGLE_FIRST_FRACTION_BIT | (fraction << 13)


def half_to_single(short):
    sign = (short >> 15) << 31
    exponent = short & HALF_EXPONENT_BITS
    fraction = short & HALF_FRACTION_BITS
    if exponent == 0:
        return sign | small_half_to_single(fraction)
    if exponent == HALF_EXPONENT_BITS:
        return sign | endless_half_to_single(fraction)
    return sign | (((exponent >> 10) + EXPONENT_SHIFT) << 23) | (fraction << 13)


def short_to_single(kind, short):
    if kind == HALF:
        return half_to_single(short)
    return short << 16
