"""chain: promises 1 and 2, what holds under a, and the interface's words on it."""

import contextlib
import io
import itertools
import sys
import unittest

from copychains import copies
from copychains.copies import chain

LARGEST = 4294967295

# Three chains in one row: 0-1-3-6, 2-5 (4 beside it upon 2), and 7 by itself.
MIXED = [0, 1, 0, 2, 3, 3, 4, 0]


class WatchedRow(list):
    """A list that lets itself be read alone."""

    def refuse(self, *args, **kwargs):
        raise AssertionError("row was changed")

    __setitem__ = __delitem__ = __iadd__ = __imul__ = refuse
    append = extend = insert = pop = remove = clear = sort = reverse = refuse


def refused_by_the_document(row):
    """Point 1, said over the numbers meant rather than over what stands in row."""
    return len(row) > 64 or any(k > 0 and k - 1 not in range(n) for n, k in enumerate(row))


class OrdinaryChains(unittest.TestCase):
    def test_first_middle_and_last_of_a_chain(self):
        self.assertEqual(chain(0, MIXED), [1, 0])
        self.assertEqual(chain(1, MIXED), [2, 0, 1])
        self.assertEqual(chain(3, MIXED), [3, 0, 1, 3])
        self.assertEqual(chain(6, MIXED), [4, 0, 1, 3, 6])

    def test_other_chains_of_the_same_row(self):
        self.assertEqual(chain(2, MIXED), [1, 2])
        self.assertEqual(chain(4, MIXED), [2, 2, 4])
        self.assertEqual(chain(5, MIXED), [2, 2, 5])
        self.assertEqual(chain(7, MIXED), [1, 7])

    def test_a_single_copy(self):
        self.assertEqual(chain(0, [0]), [1, 0])

    def test_each_by_itself(self):
        for i in range(64):
            self.assertEqual(chain(i, [0] * 64), [1, i])


class Edges(unittest.TestCase):
    def test_all_upon_the_first(self):
        row = [0] + [1] * 63
        self.assertEqual(chain(0, row), [1, 0])
        for i in range(1, 64):
            self.assertEqual(chain(i, row), [2, 0, i])

    def test_each_upon_the_one_before(self):
        row = list(range(64))
        for i in range(64):
            self.assertEqual(chain(i, row), [i + 1] + list(range(i + 1)))

    def test_none_at_all(self):
        for i in (0, 1, 63, 64, LARGEST):
            self.assertEqual(chain(i, []), [-2])

    def test_sixty_four_and_one_more(self):
        self.assertEqual(chain(63, [0] * 64), [1, 63])
        self.assertEqual(chain(0, [0] * 65), [-22])
        self.assertEqual(chain(64, [0] * 65), [-22])
        self.assertEqual(chain(64, list(range(65))), [-22])


class RefusedRows(unittest.TestCase):
    def test_one_upon_itself_wherever_it_stands(self):
        for place in range(64):
            row = [0] * 64
            row[place] = place + 1
            for i in range(64):
                self.assertEqual(chain(i, row), [-22])

    def test_one_upon_a_later_one_wherever_it_stands(self):
        for place in range(63):
            for later in range(place + 1, 64):
                row = [0] * 64
                row[place] = later + 1
                for i in (0, place, later, 63):
                    self.assertEqual(chain(i, row), [-22])

    def test_one_upon_one_that_there_is_not(self):
        for place in range(64):
            for upon in (65, 66, 200, LARGEST):
                row = [0] * 64
                row[place] = upon
                for i in (0, place, 63):
                    self.assertEqual(chain(i, row), [-22])

    def test_two_upon_one_another(self):
        self.assertEqual(chain(0, [2, 1]), [-22])
        self.assertEqual(chain(1, [2, 1]), [-22])

    def test_just_before_is_not_refused(self):
        for place in range(1, 64):
            row = [0] * 64
            row[place] = place
            self.assertEqual(chain(place, row), [2, place - 1, place])

    def test_a_refused_row_comes_ahead_of_a_missing_number(self):
        self.assertEqual(chain(1, [1]), [-22])
        self.assertEqual(chain(LARGEST, [0, 2]), [-22])
        self.assertEqual(chain(65, [0] * 65), [-22])


class MissingNumbers(unittest.TestCase):
    def test_i_as_large_as_the_number_of_copies_and_above(self):
        for length in range(65):
            row = list(range(length))
            for i in (length, length + 1, 200, LARGEST):
                self.assertEqual(chain(i, row), [-2])


class LargestInputs(unittest.TestCase):
    def test_largest_i(self):
        self.assertEqual(chain(LARGEST, MIXED), [-2])

    def test_largest_numbers_of_row(self):
        self.assertEqual(chain(0, [LARGEST]), [-22])
        self.assertEqual(chain(0, [0, LARGEST]), [-22])
        self.assertEqual(chain(LARGEST, [LARGEST] * 64), [-22])

    def test_a_row_of_two_hundred(self):
        for row in ([0] * 200, list(range(200)), [0] + [1] * 199, [LARGEST] * 200):
            for i in (0, 63, 64, 199, 200, LARGEST):
                self.assertEqual(chain(i, row), [-22])

    def test_every_length_above_sixty_four(self):
        for length in range(65, 201):
            self.assertEqual(chain(0, [0] * length), [-22])


class WhatHolds(unittest.TestCase):
    def check_answer(self, i, row):
        answer = chain(i, row)
        if refused_by_the_document(row):
            self.assertEqual(answer, [-22])
        elif i >= len(row):
            self.assertEqual(answer, [-2])
        else:
            links = answer[1:]
            self.assertEqual(answer[0], len(links))
            self.assertEqual(row[links[0]], 0)
            self.assertEqual(links[-1], i)
            for before, after in zip(links, links[1:]):
                self.assertEqual(row[after] - 1, before)

    def test_every_short_row(self):
        for length in range(6):
            for row in itertools.product(range(length + 2), repeat=length):
                for i in range(length + 2):
                    self.check_answer(i, list(row))

    def test_long_rows_with_many_branches(self):
        for step in range(1, 64):
            row = [n * step % (n + 1) for n in range(64)]
            for i in range(66):
                self.check_answer(i, row)


class Interface(unittest.TestCase):
    CALLS = ((6, MIXED), (7, MIXED), (8, MIXED), (0, [1]), (0, []), (63, list(range(64))), (0, [0] * 200))

    def test_arguments_by_name(self):
        self.assertEqual(chain(row=MIXED, i=6), [4, 0, 1, 3, 6])

    def test_a_list_of_whole_numbers_comes_back(self):
        for i, row in self.CALLS:
            answer = chain(i, row)
            self.assertIs(type(answer), list)
            for number in answer:
                self.assertIs(type(number), int)

    def test_row_is_not_changed_not_for_a_while_either(self):
        for i, row in self.CALLS:
            watched = WatchedRow(row)
            chain(i, watched)
            self.assertEqual(list(watched), row)

    def test_the_same_call_gives_the_same_answer_again(self):
        first = [chain(i, list(row)) for i, row in self.CALLS]
        again = [chain(i, list(row)) for i, row in reversed(self.CALLS)]
        self.assertEqual(first, again[::-1])

    def test_changing_an_answer_changes_no_later_one(self):
        for i, row in self.CALLS:
            expected = list(chain(i, row))
            chain(i, row).clear()
            self.assertEqual(chain(i, row), expected)

    def test_a_row_changed_between_calls_is_read_anew(self):
        row = [0, 1, 2]
        self.assertEqual(chain(2, row), [3, 0, 1, 2])
        row[2] = 1
        self.assertEqual(chain(2, row), [2, 0, 2])
        row[1] = 2
        self.assertEqual(chain(2, row), [-22])

    def test_the_module_keeps_nothing(self):
        before = repr(sorted((k, v) for k, v in vars(copies).items() if not k.startswith("__")))
        for i, row in self.CALLS:
            chain(i, row)
        after = repr(sorted((k, v) for k, v in vars(copies).items() if not k.startswith("__")))
        self.assertEqual(before, after)

    def test_nothing_is_printed(self):
        out, err = io.StringIO(), io.StringIO()
        with contextlib.redirect_stdout(out), contextlib.redirect_stderr(err):
            for i, row in self.CALLS:
                chain(i, row)
        self.assertEqual((out.getvalue(), err.getvalue()), ("", ""))

    def test_calls_are_not_nested_as_deep_as_the_row_is_long(self):
        def deepest(i, row):
            depths = [0]

            def watch(frame, event, arg):
                if event == "call":
                    depths.append(depths[-1] + 1)
                elif event == "return":
                    depths.append(depths[-1] - 1)

            before = sys.getprofile()
            sys.setprofile(watch)
            try:
                chain(i, row)
            finally:
                sys.setprofile(before)
            return max(depths)

        self.assertEqual(deepest(63, list(range(64))), deepest(1, [0, 1]))
        self.assertEqual(deepest(0, [0] * 200), deepest(0, [0] * 65))


if __name__ == "__main__":
    unittest.main()
