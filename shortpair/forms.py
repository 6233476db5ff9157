"""The two kinds of short numbers, and where a half's and a single's bits lie."""

BFLOAT = 0
HALF = 1

HALF_FRACTION_BITS = 0x3FF
HALF_FIRST_FRACTION_BIT = 0x200
HALF_EXPONENT_BITS = 0x7C00

BFLOAT_FIRST_FRACTION_BIT = 0x40

SINGLE_FRACTION_BITS = 0x7FFFFF
SINGLE_FIRST_FRACTION_BIT = 0x400000
SINGLE_EXPONENT_BITS = 0x7F800000

# A single's exponent is kept 127 too great, a half's 15.
EXPONENT_SHIFT = 112


def is_known_kind(kind):
    return kind == BFLOAT or kind == HALF
