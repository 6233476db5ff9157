"""The calls of the package."""

from shortpair.forms import is_known_kind
from shortpair.narrow import single_to_short
from shortpair.widen import short_to_single

GREATEST_COUNT = 4096
DONE = 0
REFUSED = -2


def is_refused(n, kind):
    return n > GREATEST_COUNT or not is_known_kind(kind)


def every_other_single(n, kind, pairs, first):
    return [short_to_single(kind, pairs[2 * i + first]) for i in range(n)]


def sn_even(kind, p):
    if not is_known_kind(kind):
        return [0] * 8
    return every_other_single(8, kind, p, 0)


def sn_odd(kind, p):
    if not is_known_kind(kind):
        return [0] * 8
    return every_other_single(8, kind, p, 1)


def sn_one(kind, p):
    if not is_known_kind(kind):
        return [0] * 8
    return [short_to_single(kind, p[0])] * 8


def sn_short(kind, x):
    if not is_known_kind(kind):
        return [0] * 8
    return [single_to_short(kind, single) for single in x]


def sn_wide(kind, a):
    if is_refused(len(a), kind):
        return [REFUSED]
    return [DONE] + [short_to_single(kind, short) for short in a]


def sn_narrow(kind, a):
    if is_refused(len(a), kind):
        return [REFUSED]
    return [DONE] + [single_to_short(kind, single) for single in a]


def sn_split(n, kind, a):
    if is_refused(n, kind):
        return [REFUSED]
    return [DONE] + every_other_single(n, kind, a, 0) + every_other_single(n, kind, a, 1)


def sn_join(n, kind, even, odd):
    if is_refused(n, kind):
        return [REFUSED]
    answer = [DONE]
    for i in range(n):
        answer.append(single_to_short(kind, even[i]))
        answer.append(single_to_short(kind, odd[i]))
    return answer
