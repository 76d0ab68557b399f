"""The calls over the teeth of a saw."""

LARGEST = 1000000
LARGEST_IN_CORNER = 1000
NOT_IN_RANGE = -2
NOT_FITTING = -3


def greatest_divisor(x, y):
    """The greatest common divisor of x and y."""
    a = abs(x)
    b = abs(y)
    while b != 0:
        rest = a % b
        a = b
        b = rest
    return a


def scaled_tooth(x, k):
    """2 k times the tooth at x / k."""
    # A tooth is a fraction; 2 k is what makes every tooth by k a whole number.
    rest = x % k
    if rest == 0:
        return 0
    return 2 * rest - k


def scaled_sum(h, k):
    """4 k k times the sum of h and k."""
    total = 0
    for i in range(k):
        total = total + scaled_tooth(i, k) * scaled_tooth(h * i, k)
    return total


def swaps_to_order(row, n):
    """How many swaps of two bring a row that holds each number from 0 to n - 1 once into its order."""
    places = list(row)
    swaps = 0
    for i in range(n):
        while places[i] != i:
            number = places[i]
            places[i] = places[number]
            places[number] = number
            swaps = swaps + 1
    return swaps


def all_within(numbers, least, greatest):
    """Whether each of the numbers is from least to greatest."""
    return all([least <= number <= greatest for number in numbers])


def pair_refusal(h, k):
    """The refusal of h and k where they mustn't have a common divisor, or 0 if there is none."""
    if not (all_within([h], -LARGEST, LARGEST) and all_within([k], 1, LARGEST)):
        return NOT_IN_RANGE
    if greatest_divisor(h, k) != 1:
        return NOT_FITTING
    return 0


def six(h, k):
    """0 and then 6 k times the sum of h and k, or a refusal alone."""
    refusal = pair_refusal(h, k)
    if refusal != 0:
        return [refusal]
    # 4 k k times 3 / (2 k) is 6 k; the division leaves nothing, since h and k have no common divisor.
    return [0, 3 * scaled_sum(h, k) // (2 * k)]


def sign(h, n):
    """1 if an even number of pairs among h's multiples by n stand with the greater one first, else 0; or a refusal."""
    refusal = pair_refusal(h, n)
    if refusal != 0:
        return [refusal]
    row = [h * i % n for i in range(n)]
    # Each swap changes whether the number of such pairs is even, and a row in order has none:
    # the swaps are far fewer than the pairs. No remainder comes twice, since h and n have no common divisor.
    return [1 if swaps_to_order(row, n) % 2 == 0 else 0]


def corner_heights(x, y, a, b, c):
    """How many whole z there are, from 0 on, for which x / a, y / b and z / c together are below 1."""
    # Times a b, z / c is to stay below what x / a and y / b leave of 1.
    room = a * b - x * b - y * a
    if room <= 0:
        return 0
    # The division is rounded up: a z that makes just 1 is not counted, and the z = 0 is.
    return (c * room + a * b - 1) // (a * b)


def corner(a, b, c):
    """How many points x / a, y / b, z / c stand in the corner above 0 and below 1, or a refusal alone."""
    if not all_within([a, b, c], 1, LARGEST_IN_CORNER):
        return [NOT_IN_RANGE]
    points = 0
    for x in range(a):
        for y in range(b):
            points = points + corner_heights(x, y, a, b, c)
    # The point with x, y and z all 0 is not above 0.
    return [points - 1]


def round_of(a, b, c, d):
    """0 and then how far the turn of a, b, c and d goes round, or a refusal alone."""
    if not all_within([a, b, c, d], -LARGEST, LARGEST):
        return [NOT_IN_RANGE]
    if a * d - b * c != 1:
        return [NOT_FITTING]
    if c == 0:
        return [0, b * d]
    # Taken c c times, both parts are whole: (a + d) / c is then (a + d) c, and 12 sums are 3 times the scaled one.
    taken_off = 3 * scaled_sum(d, abs(c))
    if c < 0:
        taken_off = -taken_off
    # The division leaves nothing, since a d less b c is 1.
    return [0, ((a + d) * c - taken_off) // (c * c)]


def floors(a, b, c, n):
    """0 and then (a i + b) / c, rounded down, over i from 0 to n - 1 all together, or a refusal alone."""
    if not (all_within([a, b], -LARGEST, LARGEST) and all_within([c], 1, LARGEST) and all_within([n], 0, LARGEST)):
        return [NOT_IN_RANGE]
    total = 0
    for i in range(n):
        total = total + (a * i + b) // c
    return [0, total]
