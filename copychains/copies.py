"""Copies in the order in which they were made, what each of them needs, and what needs it.

In a row, 0 says that a copy stands by itself; k above 0, that it builds upon number k - 1.
"""

MOST_COPIES = 64
MOST_WANTED = 64


def row_is_sound(row):
    """Tell whether there are few enough copies, and each builds only upon one before it."""
    if len(row) > MOST_COPIES:
        return False
    for number, upon in enumerate(row):
        # upon is one more than the number meant, so a copy upon itself has number + 1 here.
        if upon > number:
            return False
    return True


def want_is_sound(row, want):
    """Tell whether few enough numbers are wanted, and there is a copy of each."""
    # Counted as they stand: one number wanted again and again counts each time.
    if len(want) > MOST_WANTED:
        return False
    for number in want:
        if number >= len(row):
            return False
    return True


def chain(i, row):
    """Give how many copies number i needs, then these, from the one that stands by itself to i."""
    # -22 holds for every call and so comes ahead of what a call refuses by itself.
    if not row_is_sound(row):
        return [-22]
    if i >= len(row):
        return [-2]
    links = [i]
    at = i
    # This ends: in a sound row each step goes to a smaller number.
    while row[at] > 0:
        at = row[at] - 1
        links.append(at)
    links.reverse()
    return [len(links)] + links


def needed(row, want):
    """Give how many copies those wanted need together, then these, rising."""
    # -22 holds for every call and so comes ahead of what a call refuses by itself.
    if not row_is_sound(row):
        return [-22]
    if not want_is_sound(row, want):
        return [-2]
    marks = [False] * len(row)
    for number in want:
        marks[number] = True
    # From the last one down, once is enough: in a sound row only later ones can build upon a copy.
    for number in range(len(row) - 1, -1, -1):
        if marks[number] and row[number] > 0:
            marks[row[number] - 1] = True
    numbers = [number for number in range(len(row)) if marks[number]]
    return [len(numbers)] + numbers


def above(i, row):
    """Give how many other copies need number i, then these, rising."""
    # -22 holds for every call and so comes ahead of what a call refuses by itself.
    if not row_is_sound(row):
        return [-22]
    if i >= len(row):
        return [-2]
    marks = [False] * len(row)
    marks[i] = True
    # From i up, once is enough: in a sound row what a copy builds upon is marked ahead of it.
    for number in range(i + 1, len(row)):
        # One that stands by itself has 0 here, and 0 - 1 is no copy's number.
        if row[number] > 0 and marks[row[number] - 1]:
            marks[number] = True
    numbers = [number for number in range(i + 1, len(row)) if marks[number]]
    return [len(numbers)] + numbers
