"""Copies in the order in which they were made, and what each of them needs.

In a row, 0 says that a copy stands by itself; k above 0, that it builds upon number k - 1.
"""

MOST_COPIES = 64


def row_is_sound(row):
    """Tell whether there are few enough copies, and each builds only upon one before it."""
    if len(row) > MOST_COPIES:
        return False
    for number, upon in enumerate(row):
        # upon is one more than the number meant, so a copy upon itself has number + 1 here.
        if upon > number:
            return False
    return True


def chain(i, row):
    """Give how many copies number i needs, then these, from the one that stands by itself to i."""
    # -22 holds for every call and so comes ahead of what a call refuses by itself.
    if not row_is_sound(row):
        return [-22]
    if i >= len(row):
        return [-2]
    links = [i]
    at = i
    # This ends: in a sound row each step goes to a smaller number.
    while row[at] > 0:
        at = row[at] - 1
        links.append(at)
    links.reverse()
    return [len(links)] + links
