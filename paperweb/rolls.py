"""What the measured sections of a web tell: which of them are good, and how they spread."""

MOST_SECTIONS = 40
MOST_MEASURED = 1000
REFUSED = -22


def is_web(sections):
    if not 1 <= len(sections) <= MOST_SECTIONS:
        return False
    return max(sections) <= MOST_MEASURED


def are_limits(lo, hi):
    return lo <= hi <= MOST_MEASURED


def is_good(lo, hi, measured):
    return lo <= measured <= hi


def good(lo, hi, sections):
    # One number stands for all refusals, so their order can't be told from the answer.
    if not is_web(sections) or not are_limits(lo, hi):
        return [REFUSED]
    how_many = 0
    bits = 0
    bit = 1
    for measured in sections:
        if is_good(lo, hi, measured):
            how_many += 1
            bits += bit
        bit *= 2
    return [how_many, bits]


def spread(sections):
    if not is_web(sections):
        return [REFUSED]
    return [sum(sections) // len(sections), min(sections), max(sections)]
