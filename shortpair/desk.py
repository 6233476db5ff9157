"""The calls of the package."""

from shortpair.widen import is_known_kind, short_to_single


def every_other_single(kind, p, first):
    if not is_known_kind(kind):
        return [0] * 8
    return [short_to_single(kind, p[2 * i + first]) for i in range(8)]


def sn_even(kind, p):
    return every_other_single(kind, p, 0)


def sn_odd(kind, p):
    return every_other_single(kind, p, 1)
