"""The plane of p p + p + 1 points over the numbers modulo a prime p."""


def first_not_zero(v):
    """The first number of the row v that isn't 0; 0 if the row is all 0."""
    for a in v:
        if a != 0:
            return a
    return 0


def inverse(p, a):
    """The number that gives 1 when it's multiplied by a; a isn't 0."""
    # p is a prime, so a taken p - 1 times is 1 (Fermat): once less is a's inverse.
    b = 1
    for k in range(p - 2):
        b = b * a % p
    return b


def one_form(p, v):
    """The row v, which isn't all 0, divided by its first number that isn't 0."""
    factor = inverse(p, first_not_zero(v))
    return [a * factor % p for a in v]


def normal(p, v):
    """1, then v's one form; 0 if v is all 0."""
    if first_not_zero(v) == 0:
        return [0]
    return [1] + one_form(p, v)


# In their order the points are (0, 0, 1), then the p points (0, 1, z), then the
# p p points (1, y, z): number and point count by these three groups.


def number(p, v):
    """How many points come before the point v."""
    if v[0] == 1:
        return [1 + p + v[1] * p + v[2]]
    if v[1] == 1:
        return [1 + v[2]]
    return [0]


def point(p, i):
    """1, then the point that i others come before; 0 if there's none."""
    if i == 0:
        return [1, 0, 0, 1]
    if i < 1 + p:
        return [1, 0, 1, i - 1]
    rest = i - 1 - p
    if rest < p * p:
        return [1, 1, rest // p, rest % p]
    return [0]


def cross(p, u, v):
    """The cross of the rows u and v."""
    return [(u[1] * v[2] - u[2] * v[1]) % p, (u[2] * v[0] - u[0] * v[2]) % p, (u[0] * v[1] - u[1] * v[0]) % p]


def product_sum(p, u, v):
    """The sum of u's numbers times v's."""
    return (u[0] * v[0] + u[1] * v[1] + u[2] * v[2]) % p


def join(p, u, v):
    """1, then the line through the points u and v, or the point on the lines u and v; 0 if their cross is all 0."""
    return normal(p, cross(p, u, v))


def on(p, v, l):
    """1 if v lies on l, else 0."""
    if product_sum(p, v, l) == 0:
        return [1]
    return [0]


def moved(p, m, v):
    """1, then the one form of what the matrix m moves v to; 0 if that's all 0."""
    return normal(p, [product_sum(p, m[0:3], v), product_sum(p, m[3:6], v), product_sum(p, m[6:9], v)])


def determinant(p, u, v, w):
    """The determinant of the rows u, v and w."""
    return product_sum(p, u, cross(p, v, w))


def rows_of_three(points):
    """The points that stand one behind another, each as a row by itself."""
    return [points[k:k + 3] for k in range(0, len(points), 3)]


def all_different(rows):
    """Whether no two of the rows are equal."""
    for k in range(len(rows)):
        if rows[k] in rows[:k]:
            return False
    return True


def three_on_a_line(p, rows):
    """Whether three of the points lie on a line."""
    for k in range(len(rows)):
        for j in range(k):
            line = cross(p, rows[j], rows[k])
            for i in range(j):
                if product_sum(p, rows[i], line) == 0:
                    return True
    return False


def is_arc(p, rows):
    """Whether the points are different and no three of them lie on a line."""
    return all_different(rows) and not three_on_a_line(p, rows)


def sides(p, rows):
    """The lines through two of the first three points; the k-th doesn't go through the k-th point."""
    return [cross(p, rows[1], rows[2]), cross(p, rows[2], rows[0]), cross(p, rows[0], rows[1])]


def shares(p, rows):
    """How often each of the first three points goes into the fourth, up to one factor that all three have."""
    return [product_sum(p, side, rows[3]) for side in sides(p, rows)]


def taken(p, from_points, to_points):
    """1, then the matrix, in its one form, that moves four points to four others; 0 if either four are no arc."""
    start = rows_of_three(from_points)
    goal = rows_of_three(to_points)
    if not is_arc(p, start) or not is_arc(p, goal):
        return [0]
    start_sides = sides(p, start)
    start_shares = shares(p, start)
    goal_shares = shares(p, goal)
    # Times a point of start, each side is 0 but at its own point: so whatever the factors, each of the first three
    # points goes to its own. At the fourth the sides give start's shares, which the factors turn into goal's.
    factors = [goal_shares[k] * inverse(p, start_shares[k]) % p for k in range(3)]
    matrix = []
    for i in range(3):
        heights = [factors[k] * goal[k][i] for k in range(3)]
        for j in range(3):
            matrix.append(product_sum(p, heights, [side[j] for side in start_sides]))
    return [1] + one_form(p, matrix)


def first_point_off(p, line):
    """The first point, in their order, that isn't on the line."""
    i = 0
    while product_sum(p, point(p, i)[1:], line) == 0:
        i += 1
    return point(p, i)[1:]


def ratio(p, points):
    """The double ratio of four different points on a line; -1 if they aren't such."""
    rows = rows_of_three(points)
    if not all_different(rows):
        return [-1]
    a = rows[0]
    b = rows[1]
    c = rows[2]
    d = rows[3]
    line = cross(p, a, b)
    if product_sum(p, c, line) != 0 or product_sum(p, d, line) != 0:
        return [-1]
    o = first_point_off(p, line)
    above = determinant(p, o, a, c) * determinant(p, o, b, d)
    below = determinant(p, o, a, d) * determinant(p, o, b, c)
    return [above * inverse(p, below) % p]


def conic_sum(p, c, v):
    """The sum of x x, x y, x z, y y, y z, z z, each times its number of the conic c; 0 if v lies on c."""
    x = v[0]
    y = v[1]
    z = v[2]
    return (c[0] * x * x + c[1] * x * y + c[2] * x * z + c[3] * y * y + c[4] * y * z + c[5] * z * z) % p


def line_pair(p, u, v):
    """The conic on which the points of the lines u and v lie, and no others."""
    squares = [u[0] * v[0] % p, u[1] * v[1] % p, u[2] * v[2] % p]
    mixed = [(u[0] * v[1] + u[1] * v[0]) % p, (u[0] * v[2] + u[2] * v[0]) % p, (u[1] * v[2] + u[2] * v[1]) % p]
    return [squares[0], mixed[0], mixed[1], squares[1], mixed[2], squares[2]]


def through(p, points):
    """1, then the conic, in its one form, on which the five points lie; 0 if they are no arc."""
    rows = rows_of_three(points)
    if not is_arc(p, rows):
        return [0]
    # The first four points lie on both pairs of lines, so on each sum of their multiples: one holds the fifth too.
    one = line_pair(p, cross(p, rows[0], rows[1]), cross(p, rows[2], rows[3]))
    other = line_pair(p, cross(p, rows[0], rows[2]), cross(p, rows[1], rows[3]))
    at_one = conic_sum(p, one, rows[4])
    at_other = conic_sum(p, other, rows[4])
    return [1] + one_form(p, [(at_other * one[k] - at_one * other[k]) % p for k in range(6)])


def all_points(p):
    """Every point, in their order."""
    return [point(p, i)[1:] for i in range(p * p + p + 1)]


def count(p, c):
    """How many points lie on the conic c."""
    return [len([v for v in all_points(p) if conic_sum(p, c, v) == 0])]


def polar(p, c, v):
    """1, then the polar of v by the conic c: its tangent, if v lies on it; 0 if that's all 0."""
    twice = [2 * a % p for a in c]
    return moved(p, [twice[0], c[1], c[2], c[1], twice[3], c[4], c[2], c[4], twice[5]], v)


def arc(p, n, points):
    """1 if the n points are different and no three of them lie on a line, else 0."""
    if is_arc(p, rows_of_three(points[:3 * n])):
        return [1]
    return [0]


def secants(p, rows):
    """The lines through each two of the points."""
    lines = []
    for k in range(len(rows)):
        for j in range(k):
            lines.append(cross(p, rows[j], rows[k]))
    return lines


def can_be_put(p, v, rows, lines):
    """Whether the point v is none of the points and on none of the lines."""
    if v in rows:
        return False
    for line in lines:
        if product_sum(p, v, line) == 0:
            return False
    return True


def more(p, n, points):
    """How many points there are that, put to the n points, leave them an arc."""
    rows = rows_of_three(points[:3 * n])
    # What is no arc doesn't become one by another point.
    if not is_arc(p, rows):
        return [0]
    lines = secants(p, rows)
    return [len([v for v in all_points(p) if can_be_put(p, v, rows, lines)])]
