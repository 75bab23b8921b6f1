"""The whole program: what the document says of all three calls, and what holds between them."""

import inspect
import itertools
import pathlib
import subprocess
import sys
import unittest

from copychains import copies
from copychains.copies import above, chain, needed

LARGEST = 4294967295

# Three chains in one row: 0-1-3-6, 2-5 (4 beside it upon 2), and 7 by itself.
MIXED = [0, 1, 0, 2, 3, 3, 4, 0]


def rows_of_every_length():
    """Sound rows of 0 to 64 copies: flat, all upon the first, each upon the one before, and branching."""
    rows = []
    for length in range(65):
        rows.append([0] * length)
        rows.append([min(n, 1) for n in range(length)])
        rows.append(list(range(length)))
        for step in (2, 5, 11, 30, 47, 62):
            rows.append([n * step % (n + 1) for n in range(length)])
    return rows


def wants_for(length):
    """Lists of wanted ones for a row of a length: none, one, the ends, all falling, some mixed up and told again."""
    if length == 0:
        return [[]]
    last = length - 1
    return [
        [],
        [0],
        [last],
        [last, 0, last],
        list(range(last, -1, -1)),
        list(range(last // 2, length, 3)),
        [n * 7 % length for n in range(5)],
    ]


def all_calls(i, row, want):
    return [chain(i, row), needed(row, want), above(i, row)]


class RefusedRows(unittest.TestCase):
    def check_refused(self, row):
        for i, want in ((0, []), (0, [0]), (len(row), [len(row)]), (LARGEST, [0] * 65)):
            self.assertEqual(all_calls(i, row, want), [[-22]] * 3, (i, row, want))

    def test_each_length_up_to_two_hundred(self):
        for length in range(1, 201):
            answers = all_calls(0, [0] * length, [0])
            if length > 64:
                self.assertEqual(answers, [[-22]] * 3)
            else:
                self.assertEqual(answers, [[1, 0], [1, 0], [0]])

    def test_one_not_before_it_wherever_it_stands(self):
        for length in range(1, 65):
            for place in range(length):
                for upon in (place + 1, length + 1, LARGEST):
                    row = list(range(length))
                    row[place] = upon
                    self.check_refused(row)

    def test_just_the_row_is_refused_and_not_for_what_is_asked_of_it(self):
        for row in rows_of_every_length():
            for i, want in ((0, [0]), (len(row), [len(row)]), (LARGEST, [0] * 65)):
                for answer in all_calls(i, row, want):
                    self.assertNotEqual(answer, [-22], row)


class WhatHolds(unittest.TestCase):
    def test_a_chain_begins_at_one_by_itself_and_each_builds_upon_the_one_before(self):
        for row in rows_of_every_length():
            for i in range(len(row)):
                count, *links = chain(i, row)
                self.assertEqual(count, len(links))
                self.assertEqual(row[links[0]], 0)
                self.assertEqual(links[-1], i)
                for before, after in zip(links, links[1:]):
                    self.assertEqual(row[after] - 1, before)

    def test_what_is_needed_is_enough(self):
        for row in rows_of_every_length():
            for want in wants_for(len(row)):
                count, *had = needed(row, want)
                self.assertEqual(count, len(had))
                self.assertEqual(had, sorted(set(had)))
                self.assertLessEqual(set(want), set(had))
                for number in had:
                    self.assertTrue(row[number] == 0 or row[number] - 1 in had)

    def test_none_of_what_is_needed_could_be_done_without(self):
        for row in rows_of_every_length():
            for want in wants_for(len(row)):
                had = needed(row, want)[1:]
                built_upon = [row[number] - 1 for number in had if row[number] > 0]
                for number in had:
                    self.assertTrue(number in want or number in built_upon)

    def test_needed_by_more_is_needed_by_these_or_those(self):
        for row in rows_of_every_length():
            for these, those in itertools.combinations(wants_for(len(row)), 2):
                if len(these) + len(those) <= 64:
                    either = sorted(set(needed(row, these)[1:]) | set(needed(row, those)[1:]))
                    self.assertEqual(needed(row, these + those), [len(either)] + either)

    def test_what_is_needed_needs_nothing_more(self):
        for row in rows_of_every_length():
            for want in wants_for(len(row)):
                answer = needed(row, want)
                self.assertEqual(needed(row, answer[1:]), answer)

    def test_one_is_above_another_just_if_it_needs_it(self):
        for row in rows_of_every_length():
            needs_of = [needed(row, [j])[1:] for j in range(len(row))]
            for i in range(len(row)):
                others = [j for j in range(len(row)) if j != i and i in needs_of[j]]
                self.assertEqual(above(i, row), [len(others)] + others)


class Interface(unittest.TestCase):
    CALLS = (
        (6, MIXED, [4, 6, 4]),
        (2, MIXED, []),
        (8, MIXED, [8]),
        (0, [1], [0]),
        (0, [], []),
        (1, list(range(64)), [9]),
    )

    def test_names_and_order_of_the_arguments(self):
        self.assertEqual(list(inspect.signature(copies.chain).parameters), ["i", "row"])
        self.assertEqual(list(inspect.signature(copies.needed).parameters), ["row", "want"])
        self.assertEqual(list(inspect.signature(copies.above).parameters), ["i", "row"])

    def test_one_call_changes_nothing_for_another(self):
        # Every order of the three calls, over the very same lists.
        for i, row, want in self.CALLS:
            calls = (lambda: chain(i, row), lambda: needed(row, want), lambda: above(i, row))
            alone = [call() for call in calls]
            lists_before = (tuple(row), tuple(want))
            for order in itertools.product(range(3), repeat=4):
                for which in order:
                    self.assertEqual(calls[which](), alone[which])
            self.assertEqual((tuple(row), tuple(want)), lists_before)

    def test_rows_in_turn_are_not_mixed_up(self):
        first = [all_calls(*call) for call in self.CALLS]
        for one, other in itertools.permutations(range(len(self.CALLS)), 2):
            self.assertEqual(all_calls(*self.CALLS[one]), first[one])
            self.assertEqual(all_calls(*self.CALLS[other]), first[other])

    def test_nothing_else_is_imported_or_printed(self):
        program = (
            "import sys; before = set(sys.modules)\n"
            "from copychains.copies import above, chain, needed\n"
            "chain(1, [0, 1]); needed([0, 1], [1]); above(0, [0, 1]); above(0, [1]); above(2, [0])\n"
            "new = set(sys.modules) - before\n"
            "sys.exit(0 if new == {'copychains', 'copychains.copies'} else repr(new))\n"
        )
        ended = subprocess.run(
            [sys.executable, "-c", program],
            # From where the package lies, so that it is found however these tests were started.
            cwd=pathlib.Path(copies.__file__).resolve().parent.parent,
            stdin=subprocess.DEVNULL,
            capture_output=True,
            text=True,
            timeout=60,
        )
        self.assertEqual((ended.returncode, ended.stdout, ended.stderr), (0, "", ""))


if __name__ == "__main__":
    unittest.main()
