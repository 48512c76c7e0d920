"""What the measured sections of a web tell: the good ones, their spread, their runs, the rolls cut of them."""

MOST_SECTIONS = 40
MOST_MEASURED = 1000
MOST_LEAST_LENGTH = 20
MOST_JOINS = 5
MOST_TOGETHER = 40
REFUSED = -22


def is_web(sections):
    if not 1 <= len(sections) <= MOST_SECTIONS:
        return False
    return max(sections) <= MOST_MEASURED


def are_limits(lo, hi):
    return lo <= hi <= MOST_MEASURED


def is_least_length(p):
    return 1 <= p <= MOST_LEAST_LENGTH


def are_roll_numbers(j, n):
    return j <= MOST_JOINS and 1 <= n <= MOST_TOGETHER


def is_good(lo, hi, measured):
    return lo <= measured <= hi


def good(lo, hi, sections):
    # One number stands for all refusals, so their order can't be told from the answer.
    if not is_web(sections) or not are_limits(lo, hi):
        return [REFUSED]
    how_many = 0
    bits = 0
    bit = 1
    for measured in sections:
        if is_good(lo, hi, measured):
            how_many += 1
            bits += bit
        bit *= 2
    return [how_many, bits]


def spread(sections):
    if not is_web(sections):
        return [REFUSED]
    return [sum(sections) // len(sections), min(sections), max(sections)]


def split_at_gaps(places):
    parts = []
    for place in places:
        if parts and parts[-1][-1] + 1 == place:
            parts[-1].append(place)
        else:
            parts.append([place])
    return parts


def find_long_runs(lo, hi, p, sections):
    places = [place for place, measured in enumerate(sections) if is_good(lo, hi, measured)]
    return [run for run in split_at_gaps(places) if len(run) >= p]


def runs(lo, hi, p, sections):
    if not is_web(sections) or not are_limits(lo, hi) or not is_least_length(p):
        return [REFUSED]
    lengths = [len(run) for run in find_long_runs(lo, hi, p, sections)]
    return [len(lengths), max(lengths, default=0), sum(lengths)]


def find_usable(lo, hi, p, sections):
    usable = []
    for run in find_long_runs(lo, hi, p, sections):
        usable.extend(run)
    return usable


def may_be_cut(p, j, roll):
    pieces = split_at_gaps(roll)
    return len(pieces) <= j + 1 and min([len(piece) for piece in pieces]) >= p


def rolls(lo, hi, p, j, n, sections):
    if not is_web(sections) or not are_limits(lo, hi) or not is_least_length(p) or not are_roll_numbers(j, n):
        return [REFUSED]
    usable = find_usable(lo, hi, p, sections)
    begins = []
    ahead = 0
    # All rolls are n long, so the one that begins first also ends first: to cut it at once costs no later roll.
    while ahead + n <= len(usable):
        roll = usable[ahead:ahead + n]
        if may_be_cut(p, j, roll):
            begins.append(roll[0])
            ahead += n
        else:
            ahead += 1
    return [len(begins)] + begins
