"""needed: promises 1 and 3, what holds under b and c, and the interface's words on it."""

import contextlib
import io
import itertools
import sys
import unittest

from copychains import copies
from copychains.copies import chain, needed

LARGEST = 4294967295

# Three chains in one row: 0-1-3-6, 2-5 (4 beside it upon 2), and 7 by itself.
MIXED = [0, 1, 0, 2, 3, 3, 4, 0]


class WatchedList(list):
    """A list that lets itself be read alone."""

    def refuse(self, *args, **kwargs):
        raise AssertionError("what was handed in was changed")

    __setitem__ = __delitem__ = __iadd__ = __imul__ = refuse
    append = extend = insert = pop = remove = clear = sort = reverse = refuse


def row_refused_by_the_document(row):
    """Point 1, said over the numbers meant rather than over what stands in row."""
    return len(row) > 64 or any(k > 0 and k - 1 not in range(n) for n, k in enumerate(row))


def want_refused_by_the_document(row, want):
    """What point 3 refuses."""
    return len(want) > 64 or any(number not in range(len(row)) for number in want)


def is_enough(row, want, had):
    """Tell whether all that are wanted can be had back from those in had."""
    return all(n in had for n in want) and all(row[n] == 0 or row[n] - 1 in had for n in had)


def rows_with_many_branches():
    """Sound rows of 64, each with chains of other lengths that part at other places."""
    return [[n * step % (n + 1) for n in range(64)] for step in range(1, 64)]


def wants_of_many_forms():
    """Lists of wanted ones for a row of 64: none, few, many, falling, mixed up and with one told again."""
    wants = [[], [0], [63], [63, 0], [5, 5], list(range(64)), list(range(63, -1, -1)), [63] * 64]
    for step in (3, 7, 11, 20):
        wants.append(list(range(step, 64, step)))
        wants.append([n * step % 61 for n in range(9, 0, -1)])
    return wants


class OrdinaryNeeds(unittest.TestCase):
    def test_one_wanted_needs_its_chain(self):
        self.assertEqual(needed(MIXED, [0]), [1, 0])
        self.assertEqual(needed(MIXED, [1]), [2, 0, 1])
        self.assertEqual(needed(MIXED, [3]), [3, 0, 1, 3])
        self.assertEqual(needed(MIXED, [6]), [4, 0, 1, 3, 6])
        self.assertEqual(needed(MIXED, [7]), [1, 7])

    def test_some_of_one_chain(self):
        self.assertEqual(needed(MIXED, [1, 6]), [4, 0, 1, 3, 6])
        self.assertEqual(needed(MIXED, [0, 3]), [3, 0, 1, 3])
        self.assertEqual(needed(MIXED, [0, 1, 3, 6]), [4, 0, 1, 3, 6])

    def test_some_of_several_chains(self):
        self.assertEqual(needed(MIXED, [3, 7]), [4, 0, 1, 3, 7])
        self.assertEqual(needed(MIXED, [1, 5]), [4, 0, 1, 2, 5])
        self.assertEqual(needed(MIXED, [4, 6, 7]), [7, 0, 1, 2, 3, 4, 6, 7])

    def test_chains_that_share_their_beginning(self):
        self.assertEqual(needed(MIXED, [4, 5]), [3, 2, 4, 5])
        row = [0, 1, 2, 3, 3, 2, 5]
        self.assertEqual(needed(row, [3, 4]), [5, 0, 1, 2, 3, 4])
        self.assertEqual(needed(row, [5, 6]), [6, 0, 1, 2, 4, 5, 6])
        self.assertEqual(needed(row, [3, 5]), [5, 0, 1, 2, 3, 5])

    def test_wanted_in_any_order(self):
        for want in itertools.permutations([1, 4, 5, 7]):
            self.assertEqual(needed(MIXED, list(want)), [6, 0, 1, 2, 4, 5, 7])
        self.assertEqual(needed(MIXED, [7, 6, 5, 4, 3, 2, 1, 0]), [8, 0, 1, 2, 3, 4, 5, 6, 7])

    def test_a_later_chain_wanted_ahead_of_an_earlier_one(self):
        # Chains whose numbers lie between one another: told one after the other they wouldn't rise.
        row = [0, 0, 1, 2, 3, 4]
        self.assertEqual(needed(row, [5, 4]), [6, 0, 1, 2, 3, 4, 5])
        self.assertEqual(needed(row, [4, 3]), [5, 0, 1, 2, 3, 4])

    def test_a_single_copy(self):
        self.assertEqual(needed([0], [0]), [1, 0])

    def test_each_by_itself(self):
        for i in range(64):
            self.assertEqual(needed([0] * 64, [i]), [1, i])
        self.assertEqual(needed([0] * 64, [40, 3, 63, 0]), [4, 0, 3, 40, 63])


class Edges(unittest.TestCase):
    def test_all_upon_the_first(self):
        row = [0] + [1] * 63
        self.assertEqual(needed(row, [0]), [1, 0])
        for i in range(1, 64):
            self.assertEqual(needed(row, [i]), [2, 0, i])
        self.assertEqual(needed(row, [63, 1, 30]), [4, 0, 1, 30, 63])
        self.assertEqual(needed(row, list(range(1, 64))), [64] + list(range(64)))

    def test_each_upon_the_one_before(self):
        row = list(range(64))
        for i in range(64):
            self.assertEqual(needed(row, [i]), [i + 1] + list(range(i + 1)))
            self.assertEqual(needed(row, [0, i, i // 2]), [i + 1] + list(range(i + 1)))

    def test_nothing_wanted(self):
        for row in ([0], MIXED, [0] * 64, list(range(64)), [0] + [1] * 63):
            self.assertEqual(needed(row, []), [0])

    def test_one_wanted_twice(self):
        self.assertEqual(needed(MIXED, [3, 3]), [3, 0, 1, 3])
        self.assertEqual(needed(MIXED, [0, 0]), [1, 0])
        self.assertEqual(needed(MIXED, [5, 7, 5]), [3, 2, 5, 7])
        self.assertEqual(needed(MIXED, [7, 7, 1, 7, 1]), [3, 0, 1, 7])

    def test_none_at_all_and_nothing_wanted(self):
        self.assertEqual(needed([], []), [0])

    def test_none_at_all_and_something_wanted(self):
        for number in (0, 1, 63, 64, LARGEST):
            self.assertEqual(needed([], [number]), [-2])

    def test_sixty_four_copies_and_one_more(self):
        for want in ([], [0], [63]):
            self.assertEqual(needed([0] * 64, want), [len(want)] + want)
            self.assertEqual(needed([0] * 65, want), [-22])
            self.assertEqual(needed(list(range(65)), want), [-22])
        self.assertEqual(needed([0] * 65, [64]), [-22])

    def test_sixty_four_wanted_and_one_more(self):
        every = list(range(64))
        self.assertEqual(needed([0] * 64, every), [64] + every)
        self.assertEqual(needed([0] * 64, every + [0]), [-2])
        self.assertEqual(needed(every, every), [64] + every)
        self.assertEqual(needed(every, [63] + every), [-2])


class RefusedRows(unittest.TestCase):
    WANTS = ([], [0], [63], [0, 63], list(range(64)))

    def check_refused(self, row, *more_wants):
        for want in self.WANTS + more_wants:
            self.assertEqual(needed(row, want), [-22])

    def test_one_upon_itself_wherever_it_stands(self):
        for place in range(64):
            row = [0] * 64
            row[place] = place + 1
            self.check_refused(row, [place])

    def test_one_upon_a_later_one_wherever_it_stands(self):
        for place in range(63):
            for later in range(place + 1, 64):
                row = [0] * 64
                row[place] = later + 1
                self.check_refused(row, [place], [later])

    def test_one_upon_one_that_there_is_not(self):
        for place in range(64):
            for upon in (65, 66, 200, LARGEST):
                row = [0] * 64
                row[place] = upon
                self.check_refused(row, [place])

    def test_short_rows(self):
        for row in ([1], [2], [2, 1], [0, 2], [0, 3], [0, 0, 3], [0, 1, 4], [1, 1], [LARGEST]):
            self.assertEqual(needed(row, []), [-22])
            self.assertEqual(needed(row, [0]), [-22])

    def test_just_before_is_not_refused(self):
        for place in range(1, 64):
            row = [0] * 64
            row[place] = place
            self.assertEqual(needed(row, [place]), [2, place - 1, place])
            self.assertEqual(needed(row, []), [0])

    def test_a_refused_row_comes_ahead_of_a_refused_want(self):
        self.assertEqual(needed([1], [1]), [-22])
        self.assertEqual(needed([0, 2], [LARGEST]), [-22])
        self.assertEqual(needed([0, 2], [0] * 65), [-22])
        self.assertEqual(needed([0] * 65, [65]), [-22])
        self.assertEqual(needed([0] * 65, [0] * 65), [-22])


class RefusedWants(unittest.TestCase):
    def test_one_number_again_and_again(self):
        self.assertEqual(needed(MIXED, [3] * 64), [3, 0, 1, 3])
        for length in range(65, 201):
            self.assertEqual(needed(MIXED, [3] * length), [-2])
            self.assertEqual(needed([0], [0] * length), [-2])

    def test_as_large_as_the_number_of_copies_and_above(self):
        for length in range(65):
            row = list(range(length))
            for number in (length, length + 1, 200, LARGEST):
                self.assertEqual(needed(row, [number]), [-2])

    def test_the_last_one_is_not_refused(self):
        for length in range(1, 65):
            self.assertEqual(needed([0] * length, [length - 1]), [1, length - 1])

    def test_one_that_there_is_not_wherever_it_stands_in_want(self):
        for missing in (8, 9, 64, LARGEST):
            for length in (1, 2, 8, 64):
                for place in range(length):
                    want = [n % 8 for n in range(length)]
                    want[place] = missing
                    self.assertEqual(needed(MIXED, want), [-2])

    def test_too_many_of_which_one_there_is_not(self):
        self.assertEqual(needed(MIXED, [0] * 64 + [8]), [-2])
        self.assertEqual(needed(MIXED, [8] * 65), [-2])
        self.assertEqual(needed([], [0] * 65), [-2])


class LargestInputs(unittest.TestCase):
    def test_largest_numbers_of_row(self):
        for row in ([LARGEST], [0, LARGEST], [LARGEST] * 64):
            for want in ([], [0], [LARGEST]):
                self.assertEqual(needed(row, want), [-22])

    def test_largest_numbers_of_want(self):
        self.assertEqual(needed(MIXED, [LARGEST]), [-2])
        self.assertEqual(needed(MIXED, [LARGEST] * 64), [-2])
        self.assertEqual(needed([0] * 64, [LARGEST, 0]), [-2])

    def test_a_row_of_two_hundred(self):
        for row in ([0] * 200, list(range(200)), [0] + [1] * 199, [LARGEST] * 200):
            for want in ([], [0], [64], [199], [200], [LARGEST], list(range(200)), [LARGEST] * 200):
                self.assertEqual(needed(row, want), [-22])

    def test_a_want_of_two_hundred(self):
        for row in ([], [0], MIXED, [0] * 64, list(range(64))):
            for want in ([0] * 200, list(range(200)), [LARGEST] * 200):
                self.assertEqual(needed(row, want), [-2])

    def test_every_length_above_sixty_four(self):
        for length in range(65, 201):
            self.assertEqual(needed([0] * length, []), [-22])
            self.assertEqual(needed([0] * 64, [n % 64 for n in range(length)]), [-2])


class WhatHolds(unittest.TestCase):
    def check_enough_and_none_too_many(self, row, want):
        answer = needed(row, want)
        numbers = answer[1:]
        self.assertEqual(answer[0], len(numbers))
        self.assertEqual(numbers, sorted(set(numbers)))
        self.assertTrue(is_enough(row, want, numbers), (row, want))
        for number in numbers:
            left = [n for n in numbers if n != number]
            self.assertFalse(is_enough(row, want, left), (row, want, number))

    def smallest_that_is_enough(self, row, want):
        for size in range(len(row) + 1):
            for had in itertools.combinations(range(len(row)), size):
                if is_enough(row, want, had):
                    return [size] + list(had)
        self.fail((row, want))

    def expected(self, row, want):
        if row_refused_by_the_document(row):
            return [-22]
        if want_refused_by_the_document(row, want):
            return [-2]
        return self.smallest_that_is_enough(row, want)

    def test_every_short_row_with_every_short_want(self):
        for length in range(5):
            wants = [list(w) for size in range(4) for w in itertools.product(range(length + 1), repeat=size)]
            for row in itertools.product(range(length + 2), repeat=length):
                for want in wants:
                    self.assertEqual(needed(list(row), want), self.expected(list(row), want), (row, want))

    def test_each_with_the_one_that_it_builds_upon_and_none_too_many(self):
        for row in rows_with_many_branches():
            for want in wants_of_many_forms():
                self.check_enough_and_none_too_many(row, want)

    def test_needed_by_more_is_needed_by_these_or_those(self):
        wants = [want for want in wants_of_many_forms() if len(want) <= 32]
        for row in rows_with_many_branches():
            for these, those in itertools.product(wants, repeat=2):
                either = sorted(set(needed(row, these)[1:]) | set(needed(row, those)[1:]))
                self.assertEqual(needed(row, these + those), [len(either)] + either)

    def test_what_is_needed_needs_nothing_more(self):
        for row in rows_with_many_branches() + [list(range(64)), [0] + [1] * 63]:
            for want in wants_of_many_forms():
                answer = needed(row, want)
                self.assertEqual(needed(row, answer[1:]), answer)

    def test_one_wanted_needs_just_its_chain(self):
        for row in rows_with_many_branches():
            for i in range(64):
                self.assertEqual(needed(row, [i]), chain(i, row))


class Interface(unittest.TestCase):
    CALLS = (
        (MIXED, [6, 4]),
        (MIXED, [7, 7, 1]),
        (MIXED, []),
        (MIXED, [8]),
        (MIXED, [0] * 200),
        ([1], [0]),
        ([], []),
        ([], [0]),
        (list(range(64)), [63, 2]),
        ([0] * 200, [0]),
    )

    def test_arguments_by_name(self):
        self.assertEqual(needed(want=[3], row=MIXED), [3, 0, 1, 3])

    def test_a_list_of_whole_numbers_comes_back(self):
        for row, want in self.CALLS:
            answer = needed(row, want)
            self.assertIs(type(answer), list)
            for number in answer:
                self.assertIs(type(number), int)

    def test_nothing_handed_in_is_changed_not_for_a_while_either(self):
        for row, want in self.CALLS:
            watched_row, watched_want = WatchedList(row), WatchedList(want)
            needed(watched_row, watched_want)
            self.assertEqual(list(watched_row), row)
            self.assertEqual(list(watched_want), want)

    def test_plain_lists_are_as_they_were(self):
        for row, want in self.CALLS:
            row_before, want_before = tuple(row), tuple(want)
            needed(row, want)
            self.assertEqual((tuple(row), tuple(want)), (row_before, want_before))

    def test_one_list_as_row_and_as_want(self):
        both = [0, 1, 2, 0]
        self.assertEqual(needed(both, both), [3, 0, 1, 2])
        self.assertEqual(both, [0, 1, 2, 0])

    def test_the_same_call_gives_the_same_answer_again(self):
        first = [needed(list(row), list(want)) for row, want in self.CALLS]
        again = [needed(list(row), list(want)) for row, want in reversed(self.CALLS)]
        self.assertEqual(first, again[::-1])

    def test_changing_an_answer_changes_no_later_one(self):
        for row, want in self.CALLS:
            expected = list(needed(row, want))
            needed(row, want).clear()
            self.assertEqual(needed(row, want), expected)

    def test_what_is_changed_between_calls_is_read_anew(self):
        row, want = [0, 1, 2], [2]
        self.assertEqual(needed(row, want), [3, 0, 1, 2])
        row[2] = 1
        self.assertEqual(needed(row, want), [2, 0, 2])
        want[0] = 1
        self.assertEqual(needed(row, want), [2, 0, 1])
        want.append(3)
        self.assertEqual(needed(row, want), [-2])
        row[1] = 2
        self.assertEqual(needed(row, want), [-22])

    def test_the_module_keeps_nothing(self):
        before = repr(sorted((k, v) for k, v in vars(copies).items() if not k.startswith("__")))
        for row, want in self.CALLS:
            needed(row, want)
        after = repr(sorted((k, v) for k, v in vars(copies).items() if not k.startswith("__")))
        self.assertEqual(before, after)

    def test_nothing_is_printed(self):
        out, err = io.StringIO(), io.StringIO()
        with contextlib.redirect_stdout(out), contextlib.redirect_stderr(err):
            for row, want in self.CALLS:
                needed(row, want)
        self.assertEqual((out.getvalue(), err.getvalue()), ("", ""))

    def test_calls_are_not_nested_as_deep_as_the_input_is_long(self):
        def deepest(row, want):
            depths = [0]

            def watch(frame, event, arg):
                if event == "call":
                    depths.append(depths[-1] + 1)
                elif event == "return":
                    depths.append(depths[-1] - 1)

            before = sys.getprofile()
            sys.setprofile(watch)
            try:
                needed(row, want)
            finally:
                sys.setprofile(before)
            return max(depths)

        self.assertEqual(deepest(list(range(64)), [63]), deepest([0, 1], [1]))
        self.assertEqual(deepest(list(range(64)), list(range(64))), deepest([0, 1], [0, 1]))
        self.assertEqual(deepest([0] * 200, [0]), deepest([0] * 65, [0]))
        self.assertEqual(deepest([0], [0] * 200), deepest([0], [0] * 65))


if __name__ == "__main__":
    unittest.main()
