package robust_test

import (
	"math"
	"math/big"
	"math/rand"
	"slices"
	"testing"

	"consistory/api"
	"consistory/robust"
)

const mersenne = 1<<61 - 1 // the greatest prime up to MaxP

// primes are the least one, small ones, and great ones.
var primes = []uint64{2, 3, 5, 7, 11, 13, 1321, 8796095119369, 1152921504606845789, 2305843009213691579, mersenne}

// wrongPrimes are no primes, or above MaxP: the last four are primes above it.
var wrongPrimes = []uint64{0, 1, 4, 6, 9, 15, 561, 3215031751, 1 << 32, mersenne - 1, 1152921504606845789 - 1,
	api.MaxP, api.MaxP + 1, 1 << 62, math.MaxUint64, 2305843009213693967, 2305843009213699919, 1<<63 - 25, math.MaxUint64 - 58}

// wrongNumbers are not from 0 to MaxT: twice some of these, plus 1, is so, as numbers wrap round.
var wrongNumbers = []int{-1, -2, api.MaxT + 1, api.MaxT + 2, api.MaxN, 100, math.MaxInt, math.MaxInt - 1, math.MinInt, math.MinInt + 1, math.MinInt + 2, math.MaxInt / 2, -1 << 62, 1 << 62, 1<<62 + 1, 1<<31 + 1}

// An answer is what Decode answers.
type answer struct {
	c     []uint64
	wrong []int
	e     api.Errno
}

func decode(xs, ys []uint64, t int, q uint64) answer {
	c, wrong, e := robust.Decode(xs, ys, t, q)
	return answer{c, wrong, e}
}

func (a answer) equal(b answer) bool {
	return a.e == b.e && slices.Equal(a.c, b.c) && slices.Equal(a.wrong, b.wrong)
}

// expect fails where Decode answers otherwise.
func expect(t *testing.T, what string, xs, ys []uint64, n int, q uint64, want answer) {
	t.Helper()
	if got := decode(xs, ys, n, q); !got.equal(want) {
		t.Fatalf("%s: Decode(%v, %v, %d, %d) is %v, not %v", what, xs, ys, n, q, got, want)
	}
}

func bigOf(x uint64) *big.Int { return new(big.Int).SetUint64(x) }

func timesOf(a, b, q uint64) uint64 {
	if q < 1<<31 {
		return a % q * (b % q) % q
	}
	z := new(big.Int).Mul(bigOf(a), bigOf(b))
	return z.Mod(z, bigOf(q)).Uint64()
}

func plusOf(a, b, q uint64) uint64 {
	if q < 1<<31 {
		return (a%q + b%q) % q
	}
	z := new(big.Int).Add(bigOf(a), bigOf(b))
	return z.Mod(z, bigOf(q)).Uint64()
}

func lessOf(a, b, q uint64) uint64 {
	z := new(big.Int).Sub(bigOf(a), bigOf(b))
	return z.Mod(z, bigOf(q)).Uint64()
}

// valueAt returns the value of a polynomial, power by power.
func valueAt(c []uint64, x, q uint64) uint64 {
	sum, power := uint64(0), uint64(1)%q
	for _, k := range c {
		sum = plusOf(sum, timesOf(k, power, q), q)
		power = timesOf(power, x, q)
	}
	return sum
}

func valuesAt(c, xs []uint64, q uint64) []uint64 {
	var ys []uint64
	for _, x := range xs {
		ys = append(ys, valueAt(c, x, q))
	}
	return ys
}

// parted returns the numbers of the points through which a polynomial goes, and of the others.
func parted(c, xs, ys []uint64, q uint64) (right, wrong []int) {
	for i, x := range xs {
		if valueAt(c, x, q) == ys[i]%q {
			right = append(right, i)
		} else {
			wrong = append(wrong, i)
		}
	}
	return right, wrong
}

// best returns by the definition, of these polynomials, which are all that may fit, the one before the others, and how many different ones fit.
func best(polynomials [][]uint64, xs, ys []uint64, n int, q uint64) (answer, int) {
	least, fitting := answer{e: api.ErrNone}, map[[3]uint64]int{}
	var first []int
	for _, c := range polynomials {
		right, wrong := parted(c, xs, ys, q)
		if len(right) < 2*n+1 {
			continue
		}
		var key [3]uint64
		copy(key[:], c)
		fitting[key]++
		if right = right[:2*n+1]; first == nil || slices.Compare(right, first) < 0 {
			first, least = right, answer{c, wrong, api.OK}
		}
	}
	return least, len(fitting)
}

// every returns all polynomials of so many coefficients modulo q.
func every(n int, q uint64) [][]uint64 {
	if n == 0 {
		return [][]uint64{nil}
	}
	var all [][]uint64
	for _, c := range every(n-1, q) {
		for k := range q {
			all = append(all, append(slices.Clone(c), k))
		}
	}
	return all
}

// throughSome returns the polynomials through each n + 1 of the points: whatever fits is among them.
func throughSome(xs, ys []uint64, n int, q uint64) [][]uint64 {
	var all [][]uint64
	for set := range 1 << len(xs) {
		var someX, someY []uint64
		for i := range xs {
			if set>>i&1 == 1 {
				someX, someY = append(someX, xs[i]), append(someY, ys[i])
			}
		}
		if len(someX) == n+1 {
			all = append(all, lagrange(someX, someY, q))
		}
	}
	return all
}

// lagrange returns the polynomial through points as a sum of products.
func lagrange(xs, ys []uint64, q uint64) []uint64 {
	sum := make([]uint64, len(xs))
	for i, x := range xs {
		product := []uint64{ys[i] % q}
		for j, y := range xs {
			if j == i {
				continue
			}
			inverse := new(big.Int).ModInverse(bigOf(lessOf(x, y, q)), bigOf(q)).Uint64()
			next := make([]uint64, len(product)+1)
			for k, c := range product {
				c = timesOf(c, inverse, q)
				next[k] = plusOf(next[k], timesOf(c, lessOf(0, y, q), q), q)
				next[k+1] = plusOf(next[k+1], c, q)
			}
			product = next
		}
		for k, c := range product {
			sum[k] = plusOf(sum[k], c, q)
		}
	}
	return sum
}

// lift returns a number that is the same modulo q, often q or more.
func lift(r *rand.Rand, x, q uint64) uint64 {
	x %= q
	more := (math.MaxUint64 - x) / q
	switch r.Intn(4) {
	case 0:
		return x + q
	case 1:
		return x + more*q
	case 2:
		return x + (r.Uint64()%more)*q
	default:
		return x
	}
}

func liftAll(r *rand.Rand, l []uint64, q uint64) []uint64 {
	lifted := make([]uint64, len(l))
	for i, x := range l {
		lifted[i] = lift(r, x, q)
	}
	return lifted
}

// anyNumber returns a number modulo q, or beyond it.
func anyNumber(r *rand.Rand, q uint64) uint64 {
	switch r.Intn(8) {
	case 0:
		return 0
	case 1:
		return q
	case 2:
		return q - 1
	case 3:
		return math.MaxUint64 - uint64(r.Intn(3))
	case 4:
		return r.Uint64()
	default:
		return r.Uint64() % q
	}
}

func anyNumbers(r *rand.Rand, n int, q uint64) []uint64 {
	l := make([]uint64, n)
	for i := range l {
		l[i] = anyNumber(r, q)
	}
	return l
}

// reduced returns numbers below q.
func reduced(l []uint64, q uint64) []uint64 {
	below := slices.Clone(l)
	for i := range below {
		below[i] %= q
	}
	return below
}

// anyPoints returns so many x-coordinates that are different modulo q, or q if there are no more.
func anyPoints(r *rand.Rand, n int, q uint64) []uint64 {
	var xs []uint64
	for len(xs) < n && uint64(len(xs)) < q {
		x := anyNumber(r, q)
		if r.Intn(2) == 0 {
			x = uint64(r.Intn(9))
		}
		if !slices.Contains(reduced(xs, q), x%q) {
			xs = append(xs, lift(r, x, q))
		}
	}
	return xs
}

// anyValues returns values at points, of which some may be those of one polynomial, and others of another one.
func anyValues(r *rand.Rand, xs []uint64, n int, q uint64) []uint64 {
	a, b := anyNumbers(r, n+1, q), anyNumbers(r, n+1, q)
	ys := make([]uint64, len(xs))
	for i, x := range xs {
		switch r.Intn(7) {
		case 0, 1, 2:
			ys[i] = lift(r, valueAt(a, x, q), q)
		case 3, 4, 5:
			ys[i] = lift(r, valueAt(b, x, q), q)
		default:
			ys[i] = anyNumber(r, q)
		}
	}
	return ys
}

func without[T any](l []T, i int) []T { return slices.Delete(slices.Clone(l), i, i+1) }

// shorter returns the numbers of points as they are without one of these points.
func shorter(numbers []int, gone int) []int {
	var l []int
	for _, i := range numbers {
		if i < gone {
			l = append(l, i)
		} else if i > gone {
			l = append(l, i-1)
		}
	}
	return l
}

func TestExamples(t *testing.T) {
	four, six := []uint64{1, 2, 3, 4}, []uint64{1, 2, 3, 4, 5, 6}
	expect(t, "one is wrong", four, []uint64{5, 7, 9, 1}, 1, 11, answer{c: []uint64{3, 2}, wrong: []int{3}})
	expect(t, "none is wrong", four, []uint64{5, 7, 9, 0}, 1, 11, answer{c: []uint64{3, 2}})
	expect(t, "none fits", four, []uint64{5, 7, 0, 1}, 1, 11, answer{e: api.ErrNone})
	expect(t, "t = 0", four, []uint64{4, 6, 6, 4}, 0, 11, answer{c: []uint64{4}, wrong: []int{1, 2}})
	expect(t, "two fit", six, []uint64{1, 1, 1, 2, 2, 2}, 1, 11, answer{c: []uint64{1, 0}, wrong: []int{3, 4, 5}})
	expect(t, "two points", four[:2], []uint64{5, 7}, 1, 11, answer{e: api.ErrNone})
	expect(t, "modulo 9", four, []uint64{5, 7, 9, 0}, 1, 9, answer{e: api.ErrArg})
}

func TestP51Edges(t *testing.T) {
	none := answer{e: api.ErrNone}
	seven := []uint64{0, 1, 2, 3, 4, 5, 6}
	for _, c := range []struct {
		what   string
		xs, ys []uint64
		t      int
		q      uint64
		want   answer
	}{
		{"no points", nil, nil, 0, 11, none},
		{"no points", []uint64{}, nil, 1, 11, none},
		{"no points", nil, []uint64{}, 2, 2, none},
		{"one point", []uint64{5}, []uint64{3}, 0, 11, answer{c: []uint64{3}}},
		{"one point at 0", []uint64{0}, []uint64{0}, 0, 11, answer{c: []uint64{0}}},
		{"one point, t = 1", []uint64{5}, []uint64{3}, 1, 11, none},
		{"one point, t = 2", []uint64{5}, []uint64{3}, 2, 11, none},
		{"two points, t = 0", []uint64{5, 6}, []uint64{3, 4}, 0, 11, answer{c: []uint64{3}, wrong: []int{1}}},
		{"two points that are alike, t = 1", []uint64{5, 6}, []uint64{3, 3}, 1, 11, none},
		{"three points, t = 1", []uint64{1, 2, 3}, []uint64{5, 7, 9}, 1, 11, answer{c: []uint64{3, 2}}},
		{"three points, not on a line", []uint64{1, 2, 3}, []uint64{5, 7, 10}, 1, 11, none},
		{"three points, in any order", []uint64{3, 0, 2}, []uint64{9, 3, 7}, 1, 11, answer{c: []uint64{3, 2}}},
		{"three points, t = 2", []uint64{1, 2, 3}, []uint64{5, 7, 9}, 2, 11, none},
		{"four points, t = 2", []uint64{1, 2, 3, 4}, []uint64{5, 7, 9, 0}, 2, 11, none},
		{"five points, t = 2", []uint64{1, 2, 3, 4, 5}, []uint64{2, 5, 10, 6, 4}, 2, 11, answer{c: []uint64{1, 0, 1}}},
		{"five points, one of them wrong, t = 2", []uint64{1, 2, 3, 4, 5}, []uint64{2, 5, 10, 6, 5}, 2, 11, none},
		{"six points, the first wrong", []uint64{1, 2, 3, 4, 5, 6}, []uint64{3, 5, 10, 6, 4, 4}, 2, 11, answer{c: []uint64{1, 0, 1}, wrong: []int{0}}},
		{"six points, two wrong", []uint64{1, 2, 3, 4, 5, 6}, []uint64{3, 5, 10, 6, 4, 5}, 2, 11, none},
		{"MaxN points, the first and the last wrong", []uint64{1, 2, 3, 4, 5, 6, 7}, []uint64{3, 5, 10, 6, 4, 4, 0}, 2, 11, answer{c: []uint64{1, 0, 1}, wrong: []int{0, 6}}},
		{"MaxN points, three wrong", []uint64{1, 2, 3, 4, 5, 6, 7}, []uint64{3, 5, 1, 6, 4, 4, 0}, 2, 11, none},
		{"MaxN points, t = 0, all alike", seven, []uint64{4, 4, 4, 4, 4, 4, 4}, 0, 11, answer{c: []uint64{4}}},
		{"MaxN points, t = 0, all unlike", seven, []uint64{9, 8, 7, 6, 5, 4, 3}, 0, 11, answer{c: []uint64{9}, wrong: []int{1, 2, 3, 4, 5, 6}}},
		{"MaxN points, t = 0, the first is alone", seven, []uint64{6, 4, 4, 4, 4, 4, 4}, 0, 11, answer{c: []uint64{6}, wrong: []int{1, 2, 3, 4, 5, 6}}},
		{"MaxN points, t = 1, four wrong", seven, []uint64{3, 1, 7, 1, 3, 8, 4}, 1, 11, answer{c: []uint64{3, 2}, wrong: []int{1, 3, 4, 5}}},
		{"MaxN points on a parabola, t = 1", seven, []uint64{0, 1, 4, 9, 16, 25, 36}, 1, mersenne, none},
		{"MaxN points on a cubic, t = 2", seven, []uint64{0, 1, 8, 27, 64, 125, 216}, 2, mersenne, none},
		{"fewer coefficients: a constant, t = 1", []uint64{1, 2, 3, 4}, []uint64{4, 5, 4, 4}, 1, 11, answer{c: []uint64{4, 0}, wrong: []int{1}}},
		{"fewer coefficients: a constant, t = 2", []uint64{1, 2, 3, 4, 5, 6}, []uint64{4, 4, 4, 4, 5, 4}, 2, 11, answer{c: []uint64{4, 0, 0}, wrong: []int{4}}},
		{"fewer coefficients: a line, t = 2", []uint64{1, 2, 3, 4, 5}, []uint64{5, 7, 9, 0, 2}, 2, 11, answer{c: []uint64{3, 2, 0}}},
		{"fewer coefficients: 0, t = 1", []uint64{1, 2, 3}, []uint64{0, 0, 0}, 1, 11, answer{c: []uint64{0, 0}}},
		{"fewer coefficients: 0, t = 2", []uint64{1, 2, 3, 4, 5}, []uint64{0, 11, 22, 0, 33}, 2, 11, answer{c: []uint64{0, 0, 0}}},
		{"a gap: the coefficient of x is 0", []uint64{0, 1, 2, 3, 4}, []uint64{0, 3, 12, 27, 48}, 2, 97, answer{c: []uint64{0, 0, 3}}},
		{"x-coordinates from q on", []uint64{12, 2, 14, 4}, []uint64{5, 7, 9, 0}, 1, 11, answer{c: []uint64{3, 2}}},
		{"q itself as an x-coordinate", []uint64{11, 12, 13}, []uint64{3, 5, 7}, 1, 11, answer{c: []uint64{3, 2}}},
		{"values from q on", []uint64{1, 2, 3, 4}, []uint64{16, 29, 9, 11}, 1, 11, answer{c: []uint64{3, 2}}},
		{"a value from q on is wrong", []uint64{1, 2, 3, 4}, []uint64{16, 29, 9, 12}, 1, 11, answer{c: []uint64{3, 2}, wrong: []int{3}}},
		{"the greatest numbers", []uint64{math.MaxUint64, math.MaxUint64 - 1, math.MaxUint64 - 2}, []uint64{math.MaxUint64, math.MaxUint64, math.MaxUint64}, 1, mersenne, answer{c: []uint64{7, 0}}},
		{"the greatest x-coordinates", []uint64{math.MaxUint64, math.MaxUint64 - 1, math.MaxUint64 - 2}, []uint64{7, 6, 5}, 1, mersenne, answer{c: []uint64{0, 1}}},
		{"the least prime", []uint64{0, 1}, []uint64{1, 0}, 0, 2, answer{c: []uint64{1}, wrong: []int{1}}},
		{"the least prime, t = 1", []uint64{0, 1}, []uint64{1, 0}, 1, 2, none},
		{"modulo 3, t = 1", []uint64{2, 1, 0}, []uint64{2, 0, 1}, 1, 3, answer{c: []uint64{1, 2}}},
		{"modulo 3, t = 2", []uint64{2, 1, 0}, []uint64{2, 0, 1}, 2, 3, none},
		{"modulo 5, t = 2", []uint64{0, 1, 2, 3, 4}, []uint64{1, 0, 1, 4, 4}, 2, 5, answer{c: []uint64{1, 3, 1}}},
		{"modulo a great prime", []uint64{1, 2, 3, 4}, []uint64{mersenne - 1, mersenne - 2, 5, mersenne - 4}, 1, mersenne, answer{c: []uint64{0, mersenne - 1}, wrong: []int{2}}},
	} {
		expect(t, c.what, c.xs, c.ys, c.t, c.q, c.want)
	}
}

// TestP51First: several polynomials fit, of which one is before the others.
func TestP51First(t *testing.T) {
	const q = mersenne
	xs := []uint64{0, 1, 2, 3, 4, 5, 6}
	// a and b meet at 0, a and c at 1, b and f at 3; no others meet at these points.
	a, b, c, d, e, f := []uint64{5, 0}, []uint64{5, 1}, []uint64{4, 1}, []uint64{100, 3}, []uint64{1000, 50}, []uint64{q - 52, 20}
	for _, x := range []struct {
		what  string
		lines [7][]uint64 // of each point the line on which it is
		want  []uint64
		wrong []int
	}{
		{"the first three points, or the last four", [7][]uint64{d, d, d, a, a, a, a}, d, []int{3, 4, 5, 6}},
		{"the first point and the last two, or four between", [7][]uint64{d, a, a, a, a, d, d}, d, []int{1, 2, 3, 4}},
		{"the same, exchanged", [7][]uint64{a, d, d, d, d, a, a}, a, []int{1, 2, 3, 4}},
		{"every other point", [7][]uint64{a, d, a, d, a, d, a}, a, []int{1, 3, 5}},
		{"three with the first point, or four", [7][]uint64{d, a, d, a, d, a, a}, d, []int{1, 3, 5, 6}},
		{"neither with the first point", [7][]uint64{e, a, d, d, a, d, a}, a, []int{0, 2, 3, 5}},
		{"both with the first point, one with the second", [7][]uint64{a, a, b, b, b, a, a}, a, []int{2, 3, 4}},
		{"both with the first point, the other with the second", [7][]uint64{a, b, a, a, a, b, b}, b, []int{2, 3, 4}},
		{"both with the first point, neither with the second", [7][]uint64{a, e, b, a, a, b, a}, b, []int{1, 3, 4, 6}},
		{"both with the second point, one with the first", [7][]uint64{c, a, a, a, a, a, c}, c, []int{2, 3, 4, 5}},
		{"both with the second point, one with the third", [7][]uint64{e, a, a, c, c, c, a}, a, []int{0, 3, 4, 5}},
		{"both with the second point, the other with the third", [7][]uint64{e, a, c, a, a, a, c}, c, []int{0, 3, 4, 5}},
		{"three of them", [7][]uint64{a, f, f, b, b, a, a}, b, []int{1, 2, 5, 6}},
	} {
		var ys []uint64
		for i, line := range x.lines {
			ys = append(ys, valueAt(line, xs[i], q))
		}
		if _, n := best([][]uint64{a, b, c, d, e, f}, xs, ys, 1, q); n < 2 {
			t.Fatalf("%s: %d fit", x.what, n)
		}
		expect(t, x.what, xs, ys, 1, q, answer{x.want, x.wrong, api.OK})
	}
}

// TestP51Errors: each error by itself, and before those that are after it.
func TestP51Errors(t *testing.T) {
	four, on, off := []uint64{1, 2, 3, 4}, []uint64{5, 7, 9, 0}, []uint64{5, 7, 0, 1}
	eight := []uint64{1, 2, 3, 4, 5, 6, 7, 8}
	again := []uint64{1, 2, 3, 12} // modulo 11 the last is the first
	for _, c := range []struct {
		what   string
		xs, ys []uint64
		t      int
		q      uint64
		want   api.Errno
	}{
		{"no error", four, on, 1, 11, api.OK},
		{"q 0", four, on, 1, 0, api.ErrArg},
		{"q 1", four, on, 1, 1, api.ErrArg},
		{"q 12, no prime", four, on, 1, 12, api.ErrArg},
		{"q MaxP", four, on, 1, api.MaxP, api.ErrArg},
		{"q MaxP - 1, a prime", four, []uint64{5, 7, 9, 11}, 1, api.MaxP - 1, api.OK},
		{"q MaxP + 1", four, on, 1, api.MaxP + 1, api.ErrArg},
		{"q a prime above MaxP", four, []uint64{5, 7, 9, 11}, 1, 2305843009213693967, api.ErrArg},
		{"q no prime, no points", nil, nil, 0, 9, api.ErrArg},
		{"t -1", four, on, -1, 11, api.ErrArg},
		{"t -1, no points", nil, nil, -1, 11, api.ErrArg},
		{"t 0", four, on, 0, 11, api.OK},
		{"t MaxT", eight[:7], eight[:7], api.MaxT, 11, api.OK},
		{"t MaxT + 1", eight[:7], eight[:7], api.MaxT + 1, 11, api.ErrArg},
		{"one value less", four, on[:3], 1, 11, api.ErrArg},
		{"one value more", four[:3], on, 1, 11, api.ErrArg},
		{"no values", four, nil, 1, 11, api.ErrArg},
		{"no x-coordinates", nil, on, 1, 11, api.ErrArg},
		{"no x-coordinates, one value", nil, on[:1], 0, 11, api.ErrArg},
		{"MaxN points", eight[:7], eight[:7], 1, 11, api.OK},
		{"MaxN + 1 points", eight, eight, 1, 11, api.ErrTooLarge},
		{"very many points", make([]uint64, 5000), make([]uint64, 5000), 1, 11, api.ErrTooLarge},
		{"two the same", []uint64{1, 2, 1}, []uint64{5, 7, 5}, 1, 11, api.ErrTwice},
		{"two the same modulo q", again, on, 1, 11, api.ErrTwice},
		{"two the same modulo q, of the same value", again, []uint64{5, 7, 9, 5}, 1, 11, api.ErrTwice},
		{"the first two the same", []uint64{12, 1, 2, 3}, []uint64{5, 5, 7, 9}, 1, 11, api.ErrTwice},
		{"the last two the same, after some that one goes through", []uint64{1, 2, 3, 4, 15}, []uint64{5, 7, 9, 0, 0}, 1, 11, api.ErrTwice},
		{"0 and q", []uint64{0, 2, 11}, []uint64{3, 7, 3}, 1, 11, api.ErrTwice},
		{"two the same, t = 0", []uint64{1, 12}, []uint64{5, 5}, 0, 11, api.ErrTwice},
		{"more than there are modulo 2", []uint64{0, 1, 2}, []uint64{0, 0, 0}, 1, 2, api.ErrTwice},
		{"none fits", four, off, 1, 11, api.ErrNone},
		{"no points", nil, nil, 0, 11, api.ErrNone},
		{"fewer than 2 t + 1", four, on, 2, 11, api.ErrNone},
		{"q no prime and MaxN + 1 points", eight, eight, 1, 15, api.ErrArg},
		{"q no prime and two the same", again, on, 1, 9, api.ErrArg},
		{"q no prime and none fits", four, off, 1, 12, api.ErrArg},
		{"q 0 and two the same", []uint64{1, 2, 1}, []uint64{5, 7, 5}, 1, 0, api.ErrArg},
		{"t MaxT + 1 and MaxN + 1 points", eight, eight, api.MaxT + 1, 11, api.ErrArg},
		{"t -1 and two the same", again, on, -1, 11, api.ErrArg},
		{"t MaxT + 1 and none fits", four, off, api.MaxT + 1, 11, api.ErrArg},
		{"unlike lengths, MaxN + 1 x-coordinates", eight, eight[:7], 1, 11, api.ErrArg},
		{"unlike lengths, MaxN + 1 values", eight[:7], eight, 1, 11, api.ErrArg},
		{"unlike lengths, more than MaxN of both", make([]uint64, 9), eight, 1, 11, api.ErrArg},
		{"unlike lengths and two the same", again, on[:3], 1, 11, api.ErrArg},
		{"unlike lengths and none fits", four, off[:3], 1, 11, api.ErrArg},
		{"MaxN + 1 points, two the same", []uint64{1, 2, 3, 4, 5, 6, 7, 12}, eight, 1, 11, api.ErrTooLarge},
		{"MaxN + 1 points, none fits", eight, []uint64{1, 4, 9, 16, 25, 36, 49, 64}, 1, 97, api.ErrTooLarge},
		{"two the same and none fits", again, off, 1, 11, api.ErrTwice},
		{"two the same and fewer than 2 t + 1", again, on, 2, 11, api.ErrTwice},
		{"two the same of two", []uint64{1, 12}, []uint64{5, 6}, 1, 11, api.ErrTwice},
	} {
		got := decode(c.xs, c.ys, c.t, c.q)
		if got.e != c.want || got.e != api.OK && (got.c != nil || got.wrong != nil) || got.e == api.OK && len(got.c) != c.t+1 {
			t.Errorf("%s: Decode(%v, %v, %d, %d) is %v, not error %d", c.what, c.xs, c.ys, c.t, c.q, got, c.want)
		}
	}
}

// TestP51WrongArguments: what is no prime, or above MaxP, and what is not from 0 to MaxT.
func TestP51WrongArguments(t *testing.T) {
	lists := [][]uint64{nil, {1}, {1, 2, 3}, {1, 2, 1}, {1, 2, 3, 4, 5, 6, 7}, {1, 2, 3, 4, 5, 6, 7, 8}}
	bad := answer{e: api.ErrArg}
	for _, xs := range lists {
		for _, ys := range lists {
			for n := range api.MaxT + 1 {
				for _, q := range wrongPrimes {
					expect(t, "wrong q", xs, ys, n, q, bad)
				}
				if len(xs) != len(ys) {
					expect(t, "unlike lengths", xs, ys, n, 11, bad)
				}
			}
			for _, n := range wrongNumbers {
				for _, q := range []uint64{0, 2, 9, 11, mersenne} {
					expect(t, "wrong t", xs, ys, n, q, bad)
				}
			}
		}
	}
	for _, q := range primes {
		expect(t, "a prime", []uint64{1}, []uint64{q + 1}, 0, q, answer{c: []uint64{1}})
	}
}

// TestP51Twice: any two x-coordinates that are the same modulo q.
func TestP51Twice(t *testing.T) {
	r := rand.New(rand.NewSource(512))
	for _, q := range primes {
		for n := 2; n <= api.MaxN; n++ {
			for i := range n {
				for j := range i {
					xs := anyPoints(r, n, q)
					for len(xs) < n { // there are no more modulo q
						xs = append(xs, anyNumber(r, q))
					}
					xs[i] = lift(r, xs[j], q)
					ys := anyValues(r, xs, 1, q)
					for k := range api.MaxT + 1 {
						expect(t, "twice", xs, ys, k, q, answer{e: api.ErrTwice})
					}
				}
			}
		}
	}
}

// TestP51AllSmall: all values at few points modulo the least primes, held against the definition.
func TestP51AllSmall(t *testing.T) {
	seen := map[int]int{}
	for _, x := range []struct {
		xs []uint64
		q  uint64
	}{
		{nil, 2}, {[]uint64{1}, 2}, {[]uint64{0, 1}, 2}, {[]uint64{1, 0}, 2},
		{[]uint64{0, 2}, 3}, {[]uint64{0, 1, 2}, 3}, {[]uint64{5, 0, 4}, 3},
		{[]uint64{4, 1, 0}, 5}, {[]uint64{1, 2, 3, 4}, 5}, {[]uint64{3, 0, 2, 1}, 5}, {[]uint64{0, 1, 2, 3, 4}, 5}, {[]uint64{14, 3, 7, 0, 6}, 5},
	} {
		for n := range api.MaxT + 1 {
			all := every(n+1, x.q)
			for _, ys := range every(len(x.xs), x.q) { // all values
				want, fitting := best(all, x.xs, ys, n, x.q)
				expect(t, "small", x.xs, ys, n, x.q, want)
				seen[fitting]++
			}
		}
	}
	if seen[0] < 1000 || seen[1] < 1000 || seen[2] < 1000 {
		t.Error("not of all kinds:", seen)
	}
}

// TestP51Definition: any points modulo small primes, held against all polynomials.
func TestP51Definition(t *testing.T) {
	r := rand.New(rand.NewSource(51))
	for _, q := range []uint64{2, 3, 5, 7} {
		for n := range api.MaxT + 1 {
			all := every(n+1, q)
			for range 200 {
				xs := anyPoints(r, r.Intn(api.MaxN+1), q)
				ys := anyValues(r, xs, n, q)
				want, _ := best(all, xs, ys, n, q)
				expect(t, "small prime", xs, ys, n, q, want)
			}
		}
	}
}

func TestP52ErrorCorrection(t *testing.T) {
	r := rand.New(rand.NewSource(52))
	for _, q := range primes {
		for k := range api.MaxT + 1 {
			for n := 2*k + 1; n <= api.MaxN && uint64(n) <= q; n++ {
				for set := range 1 << n { // those that are changed
					corrected(t, r, n, k, set, q)
				}
			}
		}
	}
}

// corrected changes the values of a polynomial at a set of points, if it isn't too great, and asks for the polynomial.
func corrected(t *testing.T, r *rand.Rand, n, k, set int, q uint64) {
	t.Helper()
	xs := anyPoints(r, n, q)
	c := reduced(anyNumbers(r, k+1, q), q)
	if r.Intn(3) == 0 { // with fewer coefficients
		c[k] = 0
	}
	ys := liftAll(r, valuesAt(c, xs, q), q)
	var changed []int
	for i := range ys {
		if set>>i&1 == 1 {
			changed = append(changed, i)
			ys[i] = lift(r, plusOf(ys[i], 1+r.Uint64()%(q-1), q), q)
		}
	}
	if len(changed) <= k && n-len(changed) >= 2*k+1 {
		expect(t, "corrected", xs, ys, k, q, answer{c, changed, api.OK})
	}
}

// visitAny visits any points modulo small primes and great ones, and what Decode answers.
func visitAny(seed int64, rounds int, visit func(r *rand.Rand, xs, ys []uint64, n int, q uint64, got answer)) {
	r := rand.New(rand.NewSource(seed))
	for _, q := range primes {
		for n := range api.MaxT + 1 {
			for range rounds {
				size := api.MaxN
				if r.Intn(2) == 0 {
					size = r.Intn(api.MaxN)
				}
				xs := anyPoints(r, size, q)
				ys := anyValues(r, xs, n, q)
				visit(r, xs, ys, n, q, decode(xs, ys, n, q))
			}
		}
	}
}

func TestP53Fits(t *testing.T) {
	fine := 0
	visitAny(53, 150, func(r *rand.Rand, xs, ys []uint64, n int, q uint64, got answer) {
		if got.e != api.OK {
			if got.e != api.ErrNone || got.c != nil || got.wrong != nil {
				t.Fatalf("Decode(%v, %v, %d, %d): %v", xs, ys, n, q, got)
			}
			return
		}
		fine++
		right, wrong := parted(got.c, xs, ys, q)
		if len(got.c) != n+1 || !slices.Equal(got.wrong, wrong) || len(right) < 2*n+1 {
			t.Fatalf("Decode(%v, %v, %d, %d): %v, but %v are wrong", xs, ys, n, q, got, wrong)
		}
		if !slices.Equal(got.c, reduced(got.c, q)) {
			t.Fatalf("Decode(%v, %v, %d, %d): %v, not modulo q", xs, ys, n, q, got)
		}
	})
	if fine < 2000 {
		t.Error("only", fine, "times one fits")
	}
}

func TestP54First(t *testing.T) {
	seen := map[int]int{}
	visitAny(54, 80, func(r *rand.Rand, xs, ys []uint64, n int, q uint64, got answer) {
		want, fitting := best(throughSome(xs, ys, n, q), xs, ys, n, q)
		seen[min(fitting, 2)]++
		if !got.equal(want) {
			t.Fatalf("Decode(%v, %v, %d, %d): %v, not %v", xs, ys, n, q, got, want)
		}
	})
	if seen[0] < 300 || seen[1] < 300 || seen[2] < 300 {
		t.Error("not of all kinds:", seen)
	}
}

func TestP55Linearity(t *testing.T) {
	fine := 0
	visitAny(55, 150, func(r *rand.Rand, xs, ys []uint64, n int, q uint64, got answer) {
		added, k := anyNumbers(r, n+1, q), 1+r.Uint64()%(q-1)
		sums, multiples := make([]uint64, len(ys)), make([]uint64, len(ys))
		for i, y := range ys {
			sums[i] = lift(r, plusOf(y, valueAt(added, xs[i], q), q), q)
			multiples[i] = lift(r, timesOf(y, k, q), q)
		}
		sum, multiple := got, got
		sum.c, multiple.c = slices.Clone(got.c), slices.Clone(got.c)
		for i, c := range got.c {
			sum.c[i] = plusOf(c, added[i], q)
			multiple.c[i] = timesOf(c, k, q)
			fine++
		}
		expect(t, "sum", xs, sums, n, q, sum)
		expect(t, "multiple", xs, multiples, n, q, multiple)
	})
	if fine < 2000 {
		t.Error("only", fine, "coefficients")
	}
}

func TestP56Removal(t *testing.T) {
	removed := 0
	visitAny(56, 150, func(r *rand.Rand, xs, ys []uint64, n int, q uint64, got answer) {
		for _, i := range got.wrong {
			removed++
			expect(t, "removed", without(xs, i), without(ys, i), n, q, answer{got.c, shorter(got.wrong, i), api.OK})
		}
	})
	if removed < 2000 {
		t.Error("only", removed, "removed")
	}
}

// TestP51Modulo: points that are the same modulo q are the same points.
func TestP51Modulo(t *testing.T) {
	visitAny(57, 100, func(r *rand.Rand, xs, ys []uint64, n int, q uint64, got answer) {
		expect(t, "below q", reduced(xs, q), reduced(ys, q), n, q, got)
		expect(t, "from q on", liftAll(r, xs, q), liftAll(r, ys, q), n, q, got)
	})
}

// TestR1: nothing that is handed in is changed, and no answer shares memory with it.
func TestR1(t *testing.T) {
	const q = 11
	back := []uint64{12, 2, 14, 4, 5, 16, 7, 9, 1, 0, 99, 98} // both lists, with numbers beyond their ends
	xs, ys := back[:5], back[5:10]
	kept := slices.Clone(back)
	check := func(what string) {
		t.Helper()
		if !slices.Equal(back, kept) {
			t.Fatalf("%s changed %v to %v", what, kept, back)
		}
	}
	want := answer{c: []uint64{3, 2}, wrong: []int{3, 4}}
	for _, list := range [][]uint64{xs, slices.Clip(xs)} {
		got := decode(list, ys, 1, q)
		check("Decode")
		if !got.equal(want) {
			t.Fatal("Decode:", got)
		}
		again := decode(list, ys, 1, q)
		for i := range got.c[:cap(got.c)] {
			got.c[:cap(got.c)][i] = 55
		}
		for i := range got.wrong[:cap(got.wrong)] {
			got.wrong[:cap(got.wrong)][i] = 55
		}
		check("writing into the answer")
		if !again.equal(want) || !decode(list, ys, 1, q).equal(want) {
			t.Error("writing into an answer changed another one")
		}
	}
	for _, n := range []int{-1, 0, 1, 2, 3} {
		for _, modulus := range []uint64{0, 2, 9, 11, 13} {
			decode(xs, ys, n, modulus)
			decode(xs, ys[:4], n, modulus)
			decode(back, back, n, modulus)
			check("Decode")
		}
	}
	// The polynomial x, and a list that is handed in twice.
	list := []uint64{3, 1, 2}
	got := decode(list, list, 1, q)
	if !got.equal(answer{c: []uint64{0, 1}}) || !slices.Equal(list, []uint64{3, 1, 2}) {
		t.Error("a list that is handed in twice:", got, list)
	}
	one := []uint64{7}
	got = decode(one, one, 0, q)
	got.c[0] = 1
	if one[0] != 7 {
		t.Error("writing into the answer changed", one)
	}
	if a, b := decode(nil, nil, 1, q), decode([]uint64{}, []uint64{}, 1, q); !a.equal(b) {
		t.Error("no list is not the same as an empty one:", a, b)
	}
}
