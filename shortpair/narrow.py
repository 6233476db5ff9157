"""A single made a short number, both told by their bits."""

from shortpair.forms import BFLOAT_FIRST_FRACTION_BIT, EXPONENT_SHIFT, HALF, HALF_EXPONENT_BITS
from shortpair.forms import HALF_FIRST_FRACTION_BIT, SINGLE_EXPONENT_BITS, SINGLE_FRACTION_BITS

# The bit that an ordinary single leaves unwritten, ahead of its fraction.
SINGLE_LEADING_BIT = 0x800000
# From here on a single is 65536 or more: its exponent has no place among a half's.
FIRST_TOO_GREAT = 0x47800000
# An ordinary single of exponent e weighs its last bit as 2 to the power of e - 150, a small half as -24.
SMALL_HALF_DROP = 126


def without_last_bits(number, drop):
    """The number without its last bits, to the nearest; of two as near, to the even one."""
    kept = number >> drop
    rest = number - (kept << drop)
    middle = 1 << (drop - 1)
    if rest > middle or (rest == middle and kept % 2 == 1):
        return kept + 1
    return kept


def single_to_bfloat(single):
    exponent = single & SINGLE_EXPONENT_BITS
    fraction = single & SINGLE_FRACTION_BITS
    if exponent == 0:
        return (single >> 31) << 15
    if exponent == SINGLE_EXPONENT_BITS and fraction != 0:
        return (single >> 16) | BFLOAT_FIRST_FRACTION_BIT
    # A carry out of the fraction is right as it is: the next exponent, or past the greatest the infinity.
    return without_last_bits(single, 16)


def size_to_half(size):
    """The half nearest to a single that is a number of sign 0."""
    if size >= FIRST_TOO_GREAT:
        return HALF_EXPONENT_BITS
    exponent = size >> 23
    if exponent > EXPONENT_SHIFT:
        # Here too a carry leads to the next exponent, or from 65520 on to the infinity.
        return without_last_bits(size - (EXPONENT_SHIFT << 23), 13)
    if exponent == 0:
        return 0
    whole = (size & SINGLE_FRACTION_BITS) | SINGLE_LEADING_BIT
    return without_last_bits(whole, SMALL_HALF_DROP - exponent)


def single_to_half(single):
    sign = (single >> 31) << 15
    fraction = single & SINGLE_FRACTION_BITS
    if (single & SINGLE_EXPONENT_BITS) == SINGLE_EXPONENT_BITS and fraction != 0:
        return sign | HALF_EXPONENT_BITS | HALF_FIRST_FRACTION_BIT | (fraction >> 13)
    return sign | size_to_half(single & (SINGLE_EXPONENT_BITS | SINGLE_FRACTION_BITS))


def single_to_short(kind, single):
    if kind == HALF:
        return single_to_half(single)
    return single_to_bfloat(single)
