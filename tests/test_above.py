"""above: promises 1 and 4, what holds under d, and the interface's words on it."""

import contextlib
import io
import itertools
import sys
import unittest

from copychains import copies
from copychains.copies import above, chain, needed

LARGEST = 4294967295

# Three chains in one row: 0-1-3-6, 2-5 (4 beside it upon 2), and 7 by itself.
MIXED = [0, 1, 0, 2, 3, 3, 4, 0]


class WatchedRow(list):
    """A list that lets itself be read alone."""

    def refuse(self, *args, **kwargs):
        raise AssertionError("row was changed")

    __setitem__ = __delitem__ = __iadd__ = __imul__ = refuse
    append = extend = insert = pop = remove = clear = sort = reverse = refuse


def refused_by_the_document(row):
    """Point 1, said over the numbers meant rather than over what stands in row."""
    return len(row) > 64 or any(k > 0 and k - 1 not in range(n) for n, k in enumerate(row))


def needs(j, i, row):
    """Tell whether j needs i: whether one comes to i from j by what each builds upon."""
    while j != i and row[j] > 0:
        j = row[j] - 1
    return j == i


def rows_with_many_branches(length):
    """Sound rows of a length, each with chains of other lengths that part at other places."""
    return [[n * step % (n + 1) for n in range(length)] for step in range(1, 64)]


class OrdinaryAnswers(unittest.TestCase):
    def test_one_upon_which_one_builds_that_others_build_upon(self):
        self.assertEqual(above(0, MIXED), [3, 1, 3, 6])
        self.assertEqual(above(1, MIXED), [2, 3, 6])
        self.assertEqual(above(3, MIXED), [1, 6])

    def test_one_upon_which_several_build(self):
        self.assertEqual(above(2, MIXED), [2, 4, 5])

    def test_one_upon_which_none_builds(self):
        for i in (4, 5, 6, 7):
            self.assertEqual(above(i, MIXED), [0])

    def test_chains_that_share_their_beginning(self):
        # 0-1-2-3, with 4 upon 2, 5 upon 1 and 6 upon 4.
        row = [0, 1, 2, 3, 3, 2, 5]
        self.assertEqual(above(0, row), [6, 1, 2, 3, 4, 5, 6])
        self.assertEqual(above(1, row), [5, 2, 3, 4, 5, 6])
        self.assertEqual(above(2, row), [3, 3, 4, 6])
        self.assertEqual(above(3, row), [0])
        self.assertEqual(above(4, row), [1, 6])
        self.assertEqual(above(5, row), [0])
        self.assertEqual(above(6, row), [0])

    def test_chains_whose_numbers_lie_between_one_another(self):
        row = [0, 0, 1, 2, 3, 4, 5, 6]
        self.assertEqual(above(0, row), [3, 2, 4, 6])
        self.assertEqual(above(1, row), [3, 3, 5, 7])
        self.assertEqual(above(2, row), [2, 4, 6])

    def test_rising_where_branches_cross(self):
        # Branch by branch it would be 1, 4, 2, 3: 4 builds upon 1, while 2 and 3 do not.
        self.assertEqual(above(0, [0, 1, 1, 3, 2]), [4, 1, 2, 3, 4])
        self.assertEqual(above(1, [0, 1, 1, 3, 2]), [1, 4])
        self.assertEqual(above(2, [0, 1, 1, 3, 2]), [1, 3])

    def test_one_that_builds_upon_another_is_not_above_what_stands_beside_it(self):
        row = [0, 1, 1, 1]
        self.assertEqual(above(1, row), [0])
        self.assertEqual(above(2, row), [0])

    def test_a_single_copy(self):
        self.assertEqual(above(0, [0]), [0])

    def test_two_copies(self):
        self.assertEqual(above(0, [0, 1]), [1, 1])
        self.assertEqual(above(1, [0, 1]), [0])
        self.assertEqual(above(0, [0, 0]), [0])
        self.assertEqual(above(1, [0, 0]), [0])

    def test_each_by_itself(self):
        for i in range(64):
            self.assertEqual(above(i, [0] * 64), [0])


class Edges(unittest.TestCase):
    def test_all_upon_the_first(self):
        for length in range(1, 65):
            row = [0] + [1] * (length - 1)
            self.assertEqual(above(0, row), [length - 1] + list(range(1, length)))
            for i in range(1, length):
                self.assertEqual(above(i, row), [0])

    def test_each_upon_the_one_before(self):
        for length in range(1, 65):
            row = list(range(length))
            for i in range(length):
                self.assertEqual(above(i, row), [length - 1 - i] + list(range(i + 1, length)))

    def test_one_upon_itself(self):
        self.assertEqual(above(0, [1]), [-22])
        self.assertEqual(above(0, [0, 2]), [-22])
        self.assertEqual(above(1, [0, 2]), [-22])

    def test_sixty_four_and_one_more(self):
        self.assertEqual(above(0, list(range(64))), [63] + list(range(1, 64)))
        self.assertEqual(above(63, list(range(64))), [0])
        for row in ([0] * 65, list(range(65)), [0] + [1] * 64):
            for i in (0, 63, 64):
                self.assertEqual(above(i, row), [-22])

    def test_none_at_all(self):
        for i in (0, 1, 63, 64, LARGEST):
            self.assertEqual(above(i, []), [-2])


class RefusedRows(unittest.TestCase):
    def test_one_upon_itself_wherever_it_stands(self):
        for place in range(64):
            row = [0] * 64
            row[place] = place + 1
            for i in range(64):
                self.assertEqual(above(i, row), [-22])

    def test_one_upon_a_later_one_wherever_it_stands(self):
        for place in range(63):
            for later in range(place + 1, 64):
                row = [0] * 64
                row[place] = later + 1
                for i in (0, place, later, 63):
                    self.assertEqual(above(i, row), [-22])

    def test_one_upon_one_that_there_is_not(self):
        for place in range(64):
            for upon in (65, 66, 200, LARGEST):
                row = [0] * 64
                row[place] = upon
                for i in (0, place, 63):
                    self.assertEqual(above(i, row), [-22])

    def test_two_upon_one_another(self):
        self.assertEqual(above(0, [2, 1]), [-22])
        self.assertEqual(above(1, [2, 1]), [-22])

    def test_ahead_of_i_and_behind_it(self):
        for place in (0, 1, 5, 7):
            row = list(MIXED)
            row[place] = place + 1
            for i in range(8):
                self.assertEqual(above(i, row), [-22])

    def test_just_before_is_not_refused(self):
        for place in range(1, 64):
            row = [0] * 64
            row[place] = place
            self.assertEqual(above(place - 1, row), [1, place])

    def test_a_refused_row_comes_ahead_of_a_missing_number(self):
        self.assertEqual(above(1, [1]), [-22])
        self.assertEqual(above(2, [0, 2]), [-22])
        self.assertEqual(above(LARGEST, [0, 2]), [-22])
        self.assertEqual(above(65, [0] * 65), [-22])
        self.assertEqual(above(LARGEST, [0] * 65), [-22])


class MissingNumbers(unittest.TestCase):
    def test_i_as_large_as_the_number_of_copies_and_larger(self):
        for length in range(65):
            for row in ([0] * length, list(range(length))):
                for i in (length, length + 1, 200, LARGEST):
                    self.assertEqual(above(i, row), [-2])

    def test_the_last_one_is_not_refused(self):
        for length in range(1, 65):
            for row in ([0] * length, list(range(length))):
                self.assertEqual(above(length - 1, row), [0])


class LargestInputs(unittest.TestCase):
    def test_largest_i(self):
        self.assertEqual(above(LARGEST, MIXED), [-2])
        self.assertEqual(above(LARGEST, list(range(64))), [-2])

    def test_largest_numbers_of_row(self):
        self.assertEqual(above(0, [LARGEST]), [-22])
        self.assertEqual(above(0, [0, LARGEST]), [-22])
        self.assertEqual(above(LARGEST, [LARGEST] * 64), [-22])

    def test_a_row_of_two_hundred(self):
        for row in ([0] * 200, list(range(200)), [0] + [1] * 199, [LARGEST] * 200):
            for i in (0, 63, 64, 199, 200, LARGEST):
                self.assertEqual(above(i, row), [-22])

    def test_every_length_above_sixty_four(self):
        for length in range(65, 201):
            self.assertEqual(above(0, [0] * length), [-22])
            self.assertEqual(above(0, list(range(length))), [-22])


class WhatHolds(unittest.TestCase):
    def expected(self, i, row):
        if refused_by_the_document(row):
            return [-22]
        if i >= len(row):
            return [-2]
        others = [j for j in range(len(row)) if j != i and needs(j, i, row)]
        return [len(others)] + others

    def check_against_the_other_calls(self, row):
        chains = [chain(j, row)[1:] for j in range(len(row))]
        needs_of = [needed(row, [j])[1:] for j in range(len(row))]
        for i in range(len(row)):
            told = above(i, row)[1:]
            for j in range(len(row)):
                self.assertEqual(j in told, j != i and i in needs_of[j], (i, j, row))
                self.assertEqual(j in told, j != i and i in chains[j], (i, j, row))

    def test_every_short_row(self):
        for length in range(6):
            for row in itertools.product(range(length + 2), repeat=length):
                for i in range(length + 2):
                    self.assertEqual(above(i, list(row)), self.expected(i, list(row)), (i, row))

    def test_long_rows_with_many_branches(self):
        for row in rows_with_many_branches(64):
            for i in range(66):
                self.assertEqual(above(i, row), self.expected(i, row), (i, row))

    def test_above_just_if_needed_in_every_sound_short_row(self):
        for length in range(7):
            for row in itertools.product(*[range(n + 1) for n in range(length)]):
                self.check_against_the_other_calls(list(row))

    def test_above_just_if_needed_in_rows_of_every_length(self):
        for length in range(65):
            for row in rows_with_many_branches(length)[::9]:
                self.check_against_the_other_calls(row)

    def test_counted_rising_each_once_and_without_i(self):
        for length in range(1, 65):
            for row in rows_with_many_branches(length)[::5]:
                for i in range(length):
                    answer = above(i, row)
                    others = answer[1:]
                    self.assertEqual(answer[0], len(others))
                    self.assertEqual(others, sorted(set(others)))
                    self.assertNotIn(i, others)


class Interface(unittest.TestCase):
    CALLS = (
        (0, MIXED),
        (2, MIXED),
        (7, MIXED),
        (8, MIXED),
        (0, [1]),
        (0, []),
        (0, list(range(64))),
        (1, [0] + [1] * 63),
        (0, [0] * 200),
    )

    def test_arguments_by_name(self):
        self.assertEqual(above(row=MIXED, i=1), [2, 3, 6])

    def test_a_list_of_whole_numbers_comes_back(self):
        for i, row in self.CALLS:
            answer = above(i, row)
            self.assertIs(type(answer), list)
            for number in answer:
                self.assertIs(type(number), int)

    def test_row_is_not_changed_not_for_a_while_either(self):
        for i, row in self.CALLS:
            watched = WatchedRow(row)
            above(i, watched)
            self.assertEqual(list(watched), row)

    def test_a_plain_row_is_as_it_was(self):
        for i, row in self.CALLS:
            before = tuple(row)
            above(i, row)
            self.assertEqual(tuple(row), before)

    def test_the_same_call_gives_the_same_answer_again(self):
        first = [above(i, list(row)) for i, row in self.CALLS]
        again = [above(i, list(row)) for i, row in reversed(self.CALLS)]
        self.assertEqual(first, again[::-1])

    def test_changing_an_answer_changes_no_later_one(self):
        for i, row in self.CALLS:
            expected = list(above(i, row))
            above(i, row).clear()
            self.assertEqual(above(i, row), expected)

    def test_a_row_changed_between_calls_is_read_anew(self):
        row = [0, 1, 2]
        self.assertEqual(above(1, row), [1, 2])
        row[2] = 1
        self.assertEqual(above(1, row), [0])
        row.append(2)
        self.assertEqual(above(1, row), [1, 3])
        row[1] = 2
        self.assertEqual(above(1, row), [-22])

    def test_the_module_keeps_nothing(self):
        before = repr(sorted((k, v) for k, v in vars(copies).items() if not k.startswith("__")))
        for i, row in self.CALLS:
            above(i, row)
        after = repr(sorted((k, v) for k, v in vars(copies).items() if not k.startswith("__")))
        self.assertEqual(before, after)

    def test_nothing_is_printed(self):
        out, err = io.StringIO(), io.StringIO()
        with contextlib.redirect_stdout(out), contextlib.redirect_stderr(err):
            for i, row in self.CALLS:
                above(i, row)
        self.assertEqual((out.getvalue(), err.getvalue()), ("", ""))

    def test_calls_are_not_nested_as_deep_as_the_row_is_long(self):
        def deepest(i, row):
            depths = [0]

            def watch(frame, event, arg):
                if event == "call":
                    depths.append(depths[-1] + 1)
                elif event == "return":
                    depths.append(depths[-1] - 1)

            before = sys.getprofile()
            sys.setprofile(watch)
            try:
                above(i, row)
            finally:
                sys.setprofile(before)
            return max(depths)

        self.assertEqual(deepest(0, list(range(64))), deepest(0, [0, 1]))
        self.assertEqual(deepest(0, [0] + [1] * 63), deepest(0, [0, 1]))
        self.assertEqual(deepest(0, [0] * 200), deepest(0, [0] * 65))


if __name__ == "__main__":
    unittest.main()
