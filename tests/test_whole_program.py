"""The whole interface: each call by its name and its parameters, each answer a list of whole numbers."""

import contextlib
import inspect
import io
import unittest

from helper import KINDS, OTHER_KINDS
from shortpair import desk

# Each call's parameters in the document's order, and what is handed in besides kind.
CALLS = {
    "sn_even": (["kind", "p"], {"p": [31745, 0x3C00] * 8}),
    "sn_odd": (["kind", "p"], {"p": [31745, 0x3C00] * 8}),
    "sn_one": (["kind", "p"], {"p": [31745]}),
    "sn_short": (["kind", "x"], {"x": [2139095041, 0x3F800000] * 4}),
    "sn_wide": (["kind", "a"], {"a": [31745, 0x3C00, 1]}),
    "sn_narrow": (["kind", "a"], {"a": [2139095041, 0x3F800000, 1]}),
    "sn_split": (["n", "kind", "a"], {"n": 2, "a": [31745, 0x3C00, 1, 2]}),
    "sn_join": (["n", "kind", "even", "odd"], {"n": 2, "even": [2139095041, 0x3F800000], "odd": [1, 0xC0490000]}),
}

# How many numbers each call answers to the above, where it does not refuse.
LENGTHS = {
    "sn_even": 8,
    "sn_odd": 8,
    "sn_one": 8,
    "sn_short": 8,
    "sn_wide": 4,
    "sn_narrow": 4,
    "sn_split": 5,
    "sn_join": 5,
}

CALLS_OF_EIGHT = ("sn_even", "sn_odd", "sn_one", "sn_short")


def by_place(name, kind):
    parameters, arguments = CALLS[name]
    given = {**arguments, "kind": kind}
    return getattr(desk, name)(*[given[parameter] for parameter in parameters])


def by_name(name, kind):
    return getattr(desk, name)(**{**CALLS[name][1], "kind": kind})


def all_answers():
    return [by_place(name, kind) for kind in KINDS + OTHER_KINDS for name in CALLS]


class Interface(unittest.TestCase):
    def test_every_call_is_there_and_no_other(self):
        names = [name for name in vars(desk) if name.startswith("sn_")]
        self.assertEqual(sorted(names), sorted(CALLS))

    def test_parameters_in_order_and_all_handed_in(self):
        for name, (parameters, arguments) in CALLS.items():
            found = inspect.signature(getattr(desk, name)).parameters
            self.assertEqual(list(found), parameters, name)
            for parameter in found.values():
                self.assertIs(parameter.default, inspect.Parameter.empty, name)

    def test_by_place_and_by_name_alike(self):
        for kind in KINDS + OTHER_KINDS:
            for name in CALLS:
                self.assertEqual(by_place(name, kind), by_name(name, kind), name)

    def test_each_answer_is_a_list_of_whole_numbers(self):
        for answer in all_answers():
            self.assertIs(type(answer), list)
            self.assertEqual({type(number) for number in answer}, {int})

    def test_lengths(self):
        for name, length in LENGTHS.items():
            for kind in KINDS:
                self.assertEqual(len(by_place(name, kind)), length, name)

    def test_other_kinds(self):
        for name in CALLS:
            wanted = [0] * 8 if name in CALLS_OF_EIGHT else [-2]
            for kind in OTHER_KINDS:
                self.assertEqual(by_place(name, kind), wanted, name)

    def test_calls_between_change_nothing(self):
        first = all_answers()
        backward = [by_place(name, kind) for kind in reversed(KINDS + OTHER_KINDS) for name in reversed(CALLS)]
        self.assertEqual(backward[::-1], first)
        self.assertEqual(all_answers(), first)

    def test_nothing_is_printed(self):
        out = io.StringIO()
        with contextlib.redirect_stdout(out), contextlib.redirect_stderr(out):
            all_answers()
        self.assertEqual(out.getvalue(), "")


class Together(unittest.TestCase):
    """What the calls answer fits together."""

    def test_split_of_eight_is_even_and_odd(self):
        p = [(place * 40503 + 77) % 65536 for place in range(16)]
        for kind in KINDS:
            self.assertEqual(desk.sn_split(8, kind, p), [0] + desk.sn_even(kind, p) + desk.sn_odd(kind, p))

    def test_narrow_of_eight_is_short(self):
        x = [(place * 2654435761 + 12345) % 2**32 for place in range(8)]
        for kind in KINDS:
            self.assertEqual(desk.sn_narrow(kind, x), [0] + desk.sn_short(kind, x))

    def test_wide_of_eight_alike_is_one(self):
        for kind in KINDS:
            self.assertEqual(desk.sn_wide(kind, [31745] * 8), [0] + desk.sn_one(kind, [31745]))


if __name__ == "__main__":
    unittest.main()
