"""The calls over the teeth of a saw."""

LARGEST = 1000000
NOT_IN_RANGE = -2
COMMON_DIVISOR = -3


def greatest_divisor(x, y):
    """The greatest common divisor of x and y."""
    a = abs(x)
    b = abs(y)
    while b != 0:
        rest = a % b
        a = b
        b = rest
    return a


def scaled_tooth(x, k):
    """2 k times the tooth at x / k."""
    # A tooth is a fraction; 2 k is what makes every tooth by k a whole number.
    rest = x % k
    if rest == 0:
        return 0
    return 2 * rest - k


def scaled_sum(h, k):
    """4 k k times the sum of h and k."""
    total = 0
    for i in range(k):
        total = total + scaled_tooth(i, k) * scaled_tooth(h * i, k)
    return total


def six(h, k):
    """0 and then 6 k times the sum of h and k, or a refusal alone."""
    if not (-LARGEST <= h <= LARGEST and 1 <= k <= LARGEST):
        return [NOT_IN_RANGE]
    if greatest_divisor(h, k) != 1:
        return [COMMON_DIVISOR]
    # 4 k k times 3 / (2 k) is 6 k; the division leaves nothing, since h and k have no common divisor.
    return [0, 3 * scaled_sum(h, k) // (2 * k)]
