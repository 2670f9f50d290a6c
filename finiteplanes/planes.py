"""The plane of p p + p + 1 points over the numbers modulo a prime p."""


def first_not_zero(v):
    """The first number of the row v that isn't 0; 0 if the row is all 0."""
    for a in v:
        if a != 0:
            return a
    return 0


def inverse(p, a):
    """The number that gives 1 when it's multiplied by a; a isn't 0."""
    # p is a prime, so a taken p - 1 times is 1 (Fermat): once less is a's inverse.
    b = 1
    for k in range(p - 2):
        b = b * a % p
    return b


def one_form(p, v):
    """The row v, which isn't all 0, divided by its first number that isn't 0."""
    factor = inverse(p, first_not_zero(v))
    return [a * factor % p for a in v]


def normal(p, v):
    """1, then v's one form; 0 if v is all 0."""
    if first_not_zero(v) == 0:
        return [0]
    return [1] + one_form(p, v)


# In their order the points are (0, 0, 1), then the p points (0, 1, z), then the
# p p points (1, y, z): number and point count by these three groups.


def number(p, v):
    """How many points come before the point v."""
    if v[0] == 1:
        return [1 + p + v[1] * p + v[2]]
    if v[1] == 1:
        return [1 + v[2]]
    return [0]


def point(p, i):
    """1, then the point that i others come before; 0 if there's none."""
    if i == 0:
        return [1, 0, 0, 1]
    if i < 1 + p:
        return [1, 0, 1, i - 1]
    rest = i - 1 - p
    if rest < p * p:
        return [1, 1, rest // p, rest % p]
    return [0]


def cross(p, u, v):
    """The cross of the rows u and v."""
    return [(u[1] * v[2] - u[2] * v[1]) % p, (u[2] * v[0] - u[0] * v[2]) % p, (u[0] * v[1] - u[1] * v[0]) % p]


def product_sum(p, u, v):
    """The sum of u's numbers times v's."""
    return (u[0] * v[0] + u[1] * v[1] + u[2] * v[2]) % p


def join(p, u, v):
    """1, then the line through the points u and v, or the point on the lines u and v; 0 if their cross is all 0."""
    return normal(p, cross(p, u, v))


def on(p, v, l):
    """1 if v lies on l, else 0."""
    if product_sum(p, v, l) == 0:
        return [1]
    return [0]


def moved(p, m, v):
    """1, then the one form of what the matrix m moves v to; 0 if that's all 0."""
    return normal(p, [product_sum(p, m[0:3], v), product_sum(p, m[3:6], v), product_sum(p, m[6:9], v)])
