package poly_test

import (
	"math"
	"math/big"
	"math/rand"
	"slices"
	"testing"

	"consistory/api"
	"consistory/mod"
	"consistory/poly"
)

const mersenne = 1<<61 - 1 // the greatest prime up to MaxP

// moduli are allowed ones: the least and the greatest, primes and others.
var moduli = []uint64{1, 2, 3, 4, 6, 11, 12, 1 << 32, 1152921504606845789, mersenne - 1, mersenne, api.MaxP}

var primes = []uint64{2, 3, 5, 7, 11, 1321, 1152921504606845789, mersenne}

// wrong are no moduli: 0, and numbers above MaxP, some of them primes.
var wrong = []uint64{0, api.MaxP + 1, api.MaxP + 15, 1 << 62, 1 << 63, 1<<64 - 59, 1<<64 - 1}

func bigOf(x uint64) *big.Int { return new(big.Int).SetUint64(x) }

func bigMod(z *big.Int, q uint64) uint64 { return new(big.Int).Mod(z, bigOf(q)).Uint64() }

// valueOf returns the value by the definition: the sum of coefficients times powers.
func valueOf(c []uint64, x, q uint64) uint64 {
	sum := new(big.Int)
	for i, k := range c {
		power := new(big.Int).Exp(bigOf(x), big.NewInt(int64(i)), bigOf(q))
		sum.Add(sum, power.Mul(power, bigOf(k)))
	}
	return bigMod(sum, q)
}

// degreeOf returns the degree by the definition.
func degreeOf(c []uint64, q uint64) int {
	degree := -1
	for i, k := range c {
		if k%q != 0 {
			degree = i
		}
	}
	return degree
}

// numbersOf returns numbers modulo q and beyond it.
func numbersOf(r *rand.Rand, n int, q uint64) []uint64 {
	l := make([]uint64, n)
	for i := range l {
		switch r.Intn(8) {
		case 0:
			l[i] = 0
		case 1:
			l[i] = q
		case 2:
			l[i] = q - 1
		case 3:
			l[i] = math.MaxUint64 - uint64(r.Intn(3))
		case 4:
			l[i] = r.Uint64()
		default:
			l[i] = r.Uint64() % q
		}
	}
	return l
}

// pointsOf returns points of which no two are the same modulo q, fewer than n if there are not as many.
func pointsOf(r *rand.Rand, n int, q uint64) []uint64 {
	var l []uint64
	seen := map[uint64]int{}
	for try := 0; len(l) < n && try < 20*n; try++ {
		x := numbersOf(r, 1, q)[0]
		if seen[x%q] == 0 {
			seen[x%q]++
			l = append(l, x)
		}
	}
	return l
}

// errorOf returns the error that the chapter's table asks for, by the definition.
func errorOf(xs []uint64, q uint64) api.Errno {
	if q == 0 || q > api.MaxP {
		return api.ErrArg
	}
	if len(xs) > api.MaxNums {
		return api.ErrTooLarge
	}
	none := api.OK
	for i, x := range xs {
		for _, y := range xs[:i] {
			if x%q == y%q {
				return api.ErrTwice
			}
			difference := new(big.Int).Sub(bigOf(x), bigOf(y))
			if new(big.Int).ModInverse(difference, bigOf(q)) == nil {
				none = api.ErrNone
			}
		}
	}
	return none
}

// weightsOf returns the weights by the definition, quotient by quotient.
func weightsOf(xs []uint64, at, q uint64) []uint64 {
	l := make([]uint64, len(xs))
	for i, x := range xs {
		w := big.NewInt(1)
		for j, y := range xs {
			if j == i {
				continue
			}
			under := new(big.Int).ModInverse(new(big.Int).Sub(bigOf(x), bigOf(y)), bigOf(q))
			w.Mul(w, new(big.Int).Sub(bigOf(at), bigOf(y)))
			w.Mul(w, under)
			w.Mod(w, bigOf(q))
		}
		l[i] = bigMod(w, q)
	}
	return l
}

func sameList(t *testing.T, what string, got, want []uint64) {
	t.Helper()
	if !slices.Equal(got, want) {
		t.Fatalf("%s: %v, not %v", what, got, want)
	}
}

// through returns the polynomial, and fails where there is an error.
func through(t *testing.T, xs, ys []uint64, q uint64) []uint64 {
	t.Helper()
	c, e := poly.Through(xs, ys, q)
	if e != api.OK {
		t.Fatalf("Through %v %v modulo %d: error %d", xs, ys, q, e)
	}
	return c
}

// weights returns the weights, and fails where there is an error.
func weights(t *testing.T, xs []uint64, at, q uint64) []uint64 {
	t.Helper()
	w, e := poly.Weights(xs, at, q)
	if e != api.OK {
		t.Fatalf("Weights of %v at %d modulo %d: error %d", xs, at, q, e)
	}
	return w
}

func TestExamples(t *testing.T) {
	if v := poly.Eval([]uint64{3, 2, 1}, 4, 11); v != 5 {
		t.Error("Eval:", v)
	}
	if d := poly.Degree([]uint64{3, 2, 1, 0}, 11); d != 2 {
		t.Error("Degree:", d)
	}
	if d := poly.Degree([]uint64{11}, 11); d != -1 {
		t.Error("Degree of 11:", d)
	}
	sameList(t, "Sum", poly.Sum([]uint64{1, 2}, []uint64{10, 9, 5}, 11), []uint64{0, 0, 5})
	sameList(t, "Times", poly.Times([]uint64{1, 1}, []uint64{1, 10}, 11), []uint64{1, 0, 10})
	sameList(t, "Weights at 0", weights(t, []uint64{1, 2, 3}, 0, 11), []uint64{3, 8, 1})
	sameList(t, "Weights at 2", weights(t, []uint64{1, 2, 3}, 2, 11), []uint64{0, 1, 0})
	sameList(t, "Through", through(t, []uint64{1, 2, 3}, []uint64{6, 0, 7}, 11), []uint64{3, 2, 1})
	if w, e := poly.Weights([]uint64{1, 12}, 0, 11); w != nil || e != api.ErrTwice {
		t.Error("Weights of 1 12:", w, e)
	}
	if w, e := poly.Weights([]uint64{1, 3}, 0, 6); w != nil || e != api.ErrNone {
		t.Error("Weights of 1 3 modulo 6:", w, e)
	}
}

func TestP31ValueAndDegree(t *testing.T) {
	r := rand.New(rand.NewSource(31))
	for _, q := range moduli {
		for n := range 12 {
			for range 8 {
				c, x := numbersOf(r, n, q), numbersOf(r, 1, q)[0]
				if got, want := poly.Eval(c, x, q), valueOf(c, x, q); got != want {
					t.Fatalf("Eval(%v, %d, %d): %d, not %d", c, x, q, got, want)
				}
				for _, c := range [][]uint64{c, append(slices.Clone(c), 0), append(slices.Clone(c), q, 0, q)} {
					if got, want := poly.Degree(c, q), degreeOf(c, q); got != want {
						t.Fatalf("Degree(%v, %d): %d, not %d", c, q, got, want)
					}
				}
			}
		}
		if v := poly.Eval([]uint64{0, 0, 0}, 5, q); v != 0 {
			t.Errorf("Eval of 0s modulo %d: %d", q, v)
		}
		if v := poly.Eval([]uint64{q + 1, q, 7}, q, q); v != 1%q {
			t.Errorf("Eval at %d, which is 0: %d", q, v)
		}
		for _, none := range [][]uint64{nil, {}} {
			if v, d := poly.Eval(none, 7, q), poly.Degree(none, q); v != 0 || d != -1 {
				t.Errorf("no coefficients modulo %d: value %d, degree %d", q, v, d)
			}
		}
	}
	if d := poly.Degree([]uint64{1, 5}, 1); d != -1 {
		t.Error("Degree modulo 1:", d)
	}
}

func TestP31SumAndScale(t *testing.T) {
	r := rand.New(rand.NewSource(312))
	for _, q := range moduli {
		for range 200 {
			a, b := numbersOf(r, r.Intn(6), q), numbersOf(r, r.Intn(6), q)
			sum := make([]uint64, max(len(a), len(b)))
			for i := range sum {
				z := new(big.Int)
				if i < len(a) {
					z.Add(z, bigOf(a[i]))
				}
				if i < len(b) {
					z.Add(z, bigOf(b[i]))
				}
				sum[i] = bigMod(z, q)
			}
			sameList(t, "Sum", poly.Sum(a, b, q), sum)
			k := numbersOf(r, 1, q)[0]
			multiple := make([]uint64, len(a))
			for i := range a {
				multiple[i] = bigMod(new(big.Int).Mul(bigOf(a[i]), bigOf(k)), q)
			}
			sameList(t, "Scale", poly.Scale(a, k, q), multiple)
		}
	}
	sameList(t, "Sum with no coefficients", poly.Sum(nil, []uint64{12, 0, 11}, 11), []uint64{1, 0, 0})
	sameList(t, "Sum with no coefficients", poly.Sum([]uint64{12, 0, 11}, nil, 11), []uint64{1, 0, 0})
	sameList(t, "Sum of none", poly.Sum(nil, nil, 11), nil)
	sameList(t, "Sum that is 0", poly.Sum([]uint64{5, 6}, []uint64{6, 5}, 11), []uint64{0, 0})
	sameList(t, "Scale by 0", poly.Scale([]uint64{5, 6}, 11, 11), []uint64{0, 0})
	sameList(t, "Scale of none", poly.Scale(nil, 3, 11), nil)
}

func TestP31Times(t *testing.T) {
	r := rand.New(rand.NewSource(313))
	for _, q := range moduli {
		for range 200 {
			a, b := numbersOf(r, 1+r.Intn(5), q), numbersOf(r, 1+r.Intn(5), q)
			want := make([]uint64, len(a)+len(b)-1)
			for k := range want {
				z := new(big.Int)
				for i := range a {
					if k-i >= 0 && k-i < len(b) {
						z.Add(z, new(big.Int).Mul(bigOf(a[i]), bigOf(b[k-i])))
					}
				}
				want[k] = bigMod(z, q)
			}
			sameList(t, "Times", poly.Times(a, b, q), want)
		}
		for _, none := range [][]uint64{nil, {}} {
			sameList(t, "Times", poly.Times(none, []uint64{1, 2}, q), nil)
			sameList(t, "Times", poly.Times([]uint64{1, 2}, none, q), nil)
			sameList(t, "Times", poly.Times(none, none, q), nil)
		}
	}
	sameList(t, "Times keeps trailing 0s", poly.Times([]uint64{2, 0}, []uint64{3, 11}, 6), []uint64{0, 4, 0})
	sameList(t, "Times by 0", poly.Times([]uint64{0}, []uint64{3, 4}, 6), []uint64{0, 0})
	sameList(t, "Times of coefficients without a product", poly.Times([]uint64{0, 2}, []uint64{0, 3}, 6), []uint64{0, 0, 0})
}

func TestP31Same(t *testing.T) {
	for _, c := range []struct {
		a, b []uint64
		q    uint64
		want bool
	}{
		{nil, nil, 11, true},
		{nil, []uint64{0, 11, 22}, 11, true},
		{[]uint64{0, 11, 22}, nil, 11, true},
		{nil, []uint64{0, 1}, 11, false},
		{[]uint64{0, 1}, nil, 11, false},
		{[]uint64{1, 2}, []uint64{12, 13, 0, 11}, 11, true},
		{[]uint64{12, 13, 0, 11}, []uint64{1, 2}, 11, true},
		{[]uint64{1, 2}, []uint64{1, 2, 0, 5}, 11, false},
		{[]uint64{1, 2, 0, 5}, []uint64{1, 2}, 11, false},
		{[]uint64{1, 2}, []uint64{2, 1}, 11, false},
		{[]uint64{0, 1}, []uint64{1}, 11, false},
		{[]uint64{1, 2, 3}, []uint64{1, 5, 3}, 11, false},
		{[]uint64{math.MaxUint64}, []uint64{math.MaxUint64 % api.MaxP}, api.MaxP, true},
		{[]uint64{math.MaxUint64}, []uint64{math.MaxUint64 - 1}, api.MaxP, false},
		{[]uint64{1, 2, 3}, []uint64{9, 8}, 1, true},
	} {
		if got := poly.Same(c.a, c.b, c.q); got != c.want {
			t.Errorf("Same(%v, %v, %d): %v", c.a, c.b, c.q, got)
		}
	}
	r := rand.New(rand.NewSource(314))
	for _, q := range moduli {
		for range 100 {
			a := numbersOf(r, r.Intn(5), q)
			b := numbersOf(r, r.Intn(3), q)
			if r.Intn(2) == 0 {
				b = poly.Sum(a, make([]uint64, r.Intn(8)), q)
			}
			same := true
			for i := range 8 {
				x, y := uint64(0), uint64(0)
				if i < len(a) {
					x = a[i] % q
				}
				if i < len(b) {
					y = b[i] % q
				}
				same = same && x == y
			}
			if poly.Same(a, b, q) != same || poly.Same(b, a, q) != same {
				t.Fatalf("Same(%v, %v, %d) is not %v", a, b, q, same)
			}
		}
	}
}

func TestP31NoModulus(t *testing.T) {
	a, b := []uint64{1, 2, 3}, []uint64{4, 5}
	for _, q := range wrong {
		if v := poly.Eval(a, 1, q); v != 0 {
			t.Errorf("Eval modulo %d: %d", q, v)
		}
		if d := poly.Degree(a, q); d != -1 {
			t.Errorf("Degree modulo %d: %d", q, d)
		}
		sameList(t, "Sum", poly.Sum(a, b, q), nil)
		sameList(t, "Scale", poly.Scale(a, 2, q), nil)
		sameList(t, "Times", poly.Times(a, b, q), nil)
		if !poly.Same(a, b, q) || !poly.Same(nil, b, q) || !poly.Same(nil, nil, q) {
			t.Errorf("Same modulo %d: false", q)
		}
	}
}

// TestP32Errors: each error by itself, and each before all those behind it.
func TestP32Errors(t *testing.T) {
	many := make([]uint64, api.MaxNums+1)
	for i := range many {
		many[i] = uint64(2 * i)
	}
	twice := append(slices.Clone(many), 0)
	for _, c := range []struct {
		what string
		xs   []uint64
		q    uint64
		want api.Errno
	}{
		{"q 0", []uint64{1, 2}, 0, api.ErrArg},
		{"q 0, no points", nil, 0, api.ErrArg},
		{"q above MaxP", []uint64{1, 2}, api.MaxP + 1, api.ErrArg},
		{"q above MaxP, no points", nil, api.MaxP + 1, api.ErrArg},
		{"q MaxP", []uint64{1, 2}, api.MaxP, api.OK},
		{"q MaxP, an even difference", []uint64{1, 3}, api.MaxP, api.ErrNone},
		{"q 1, one point", []uint64{7}, 1, api.OK},
		{"q 1, two points", []uint64{7, 8}, 1, api.ErrTwice},
		{"no points", nil, 11, api.OK},
		{"no points", []uint64{}, 11, api.OK},
		{"one more than MaxNums", many, mersenne, api.ErrTooLarge},
		{"the same two", []uint64{1, 5, 2, 5}, 11, api.ErrTwice},
		{"the same two modulo q", []uint64{16, 1, 2, 5}, 11, api.ErrTwice},
		{"the first and the last", []uint64{3, 1, 2, 14}, 11, api.ErrTwice},
		{"0 and q", []uint64{0, mersenne}, mersenne, api.ErrTwice},
		{"a difference of 2 modulo 6", []uint64{1, 3}, 6, api.ErrNone},
		{"a difference of 3 modulo 6", []uint64{0, 1, 3}, 6, api.ErrNone},
		{"a difference of 1 modulo 6", []uint64{1, 2}, 6, api.OK},
		{"a difference of 5 modulo 6", []uint64{6, 5}, 6, api.OK},
		{"differences 2 and 3 modulo 12, the product 6", []uint64{0, 2, 3}, 12, api.ErrNone},
		{"all of 1 2 5 modulo 9 but the last", []uint64{1, 2, 5}, 9, api.ErrNone},
		{"1 2 3 modulo 35", []uint64{1, 2, 3}, 35, api.OK},
		{"ErrArg before ErrTooLarge", many, 0, api.ErrArg},
		{"ErrArg before ErrTwice", []uint64{1, 1}, 0, api.ErrArg},
		{"ErrTooLarge before ErrTwice", twice, mersenne, api.ErrTooLarge},
		{"ErrTooLarge before ErrTwice and ErrNone", many, 1000, api.ErrTooLarge},
		{"ErrTwice before ErrNone", []uint64{1, 3, 4, 4}, 6, api.ErrTwice},
		{"ErrTwice before ErrNone", []uint64{4, 10, 1, 3}, 6, api.ErrTwice},
	} {
		w, e := poly.Weights(c.xs, 0, c.q)
		if e != c.want || e != errorOf(c.xs, c.q) || e != api.OK && w != nil {
			t.Errorf("Weights, %s: %v, error %d", c.what, w, e)
		}
		p, e := poly.Through(c.xs, c.xs, c.q)
		if e != c.want || e != api.OK && p != nil {
			t.Errorf("Through, %s: %v, error %d", c.what, p, e)
		}
	}
}

func TestP32UnlikeNumbers(t *testing.T) {
	many := make([]uint64, api.MaxNums+1)
	for _, c := range []struct{ xs, ys []uint64 }{
		{[]uint64{1, 2}, []uint64{1}},
		{[]uint64{1}, []uint64{1, 2}},
		{nil, []uint64{1}},
		{[]uint64{1}, nil},
		{[]uint64{1, 1}, []uint64{1}},
		{[]uint64{1, 3}, []uint64{1}},
		{many, []uint64{1}},
		{[]uint64{1, 2}, many},
	} {
		for _, q := range []uint64{0, 1, 6, 11, mersenne, api.MaxP, api.MaxP + 1} {
			if p, e := poly.Through(c.xs, c.ys, q); p != nil || e != api.ErrArg {
				t.Errorf("Through %d and %d numbers modulo %d: %v, error %d", len(c.xs), len(c.ys), q, p, e)
			}
		}
	}
	ys := slices.Repeat([]uint64{5}, api.MaxNums+1)
	if p, e := poly.Through(many, ys, 11); p != nil || e != api.ErrTooLarge {
		t.Errorf("Through %d pairs: %v, error %d", len(many), p, e)
	}
}

// TestP32Reference: any points modulo anything, held against the definition.
func TestP32Reference(t *testing.T) {
	r := rand.New(rand.NewSource(32))
	fine := 0
	for _, q := range append(slices.Clone(moduli), 9, 15, 35, 77, 1<<32-1) {
		for range 150 {
			xs := numbersOf(r, r.Intn(6), q)
			if r.Intn(2) == 0 {
				xs = pointsOf(r, r.Intn(5), q)
			}
			ys, at := numbersOf(r, len(xs), q), numbersOf(r, 1, q)[0]
			want := errorOf(xs, q)
			w, e := poly.Weights(xs, at, q)
			p, f := poly.Through(xs, ys, q)
			if e != want || f != want {
				t.Fatalf("%v modulo %d: Weights %d, Through %d, not %d", xs, q, e, f, want)
			}
			if want != api.OK {
				sameList(t, "Weights beside an error", w, nil)
				sameList(t, "Through beside an error", p, nil)
				continue
			}
			fine++
			sameList(t, "Weights", w, weightsOf(xs, at, q))
			if len(p) != len(xs) {
				t.Fatalf("Through %d pairs: %d coefficients", len(xs), len(p))
			}
			for i, c := range p {
				if c >= q {
					t.Fatalf("Through: the coefficient %d is %d, modulo %d", i, c, q)
				}
			}
			for i, x := range xs {
				if valueOf(p, x, q) != ys[i]%q {
					t.Fatalf("Through %v %v modulo %d: %v", xs, ys, q, p)
				}
			}
		}
	}
	if fine < 800 {
		t.Error("only", fine, "without an error")
	}
}

// TestP32Few: no points, and one.
func TestP32Few(t *testing.T) {
	for _, q := range moduli {
		sameList(t, "Weights of none", weights(t, nil, 5, q), nil)
		sameList(t, "Through none", through(t, nil, []uint64{}, q), nil)
		sameList(t, "Weights of one", weights(t, []uint64{7}, 5, q), []uint64{1 % q})
		sameList(t, "Weights of one, at it", weights(t, []uint64{7}, 7, q), []uint64{1 % q})
		sameList(t, "Through one", through(t, []uint64{7}, []uint64{q + 1}, q), []uint64{1 % q})
		sameList(t, "Through one, 0", through(t, []uint64{7}, []uint64{q}, q), []uint64{0})
	}
	sameList(t, "Through 0s", through(t, []uint64{1, 2, 3}, []uint64{0, 11, 22}, 11), []uint64{0, 0, 0})
	sameList(t, "Through a constant", through(t, []uint64{1, 2, 3}, []uint64{4, 15, 26}, 11), []uint64{4, 0, 0})
}

// TestP32Most: as many points as MaxNums.
func TestP32Most(t *testing.T) {
	r := rand.New(rand.NewSource(322))
	const q = mersenne
	xs := pointsOf(r, api.MaxNums, q)
	if len(xs) != api.MaxNums {
		t.Fatal(len(xs), "points")
	}
	c := numbersOf(r, api.MaxNums, q)
	ys := make([]uint64, len(xs))
	for i, x := range xs {
		ys[i] = poly.Eval(c, x, q)
	}
	if got := through(t, xs, ys, q); len(got) != len(c) || !poly.Same(got, c, q) {
		t.Error("Through MaxNums pairs: another polynomial")
	}
	at := r.Uint64()
	sum := uint64(0)
	for i, w := range weights(t, xs, at, q) {
		sum = mod.Add(sum, mod.Mul(w, ys[i], q), q)
	}
	if sum != poly.Eval(c, at, q) {
		t.Error("Weights of MaxNums points: another value")
	}
}

func TestP33Values(t *testing.T) {
	r := rand.New(rand.NewSource(33))
	for _, q := range moduli {
		for range 100 {
			a, b := numbersOf(r, r.Intn(6), q), numbersOf(r, r.Intn(6), q)
			x, k := numbersOf(r, 1, q)[0], r.Uint64()
			ofA, ofB := valueOf(a, x, q), valueOf(b, x, q)
			if v := poly.Eval(poly.Sum(a, b, q), x, q); v != mod.Add(ofA, ofB, q) {
				t.Fatalf("%v + %v at %d modulo %d: %d", a, b, x, q, v)
			}
			if v := poly.Eval(poly.Times(a, b, q), x, q); v != mod.Mul(ofA, ofB, q) {
				t.Fatalf("%v times %v at %d modulo %d: %d", a, b, x, q, v)
			}
			if v := poly.Eval(poly.Scale(a, k, q), x, q); v != mod.Mul(ofA, k, q) {
				t.Fatalf("%v times %d at %d modulo %d: %d", a, k, x, q, v)
			}
		}
	}
	for _, q := range primes {
		for range 100 {
			a, b := numbersOf(r, r.Intn(6), q), numbersOf(r, r.Intn(6), q)
			m, n := poly.Degree(a, q), poly.Degree(b, q)
			want := m + n
			if m < 0 || n < 0 {
				want = -1
			}
			if d := poly.Degree(poly.Times(a, b, q), q); d != want {
				t.Fatalf("degree of %v times %v modulo %d: %d", a, b, q, d)
			}
		}
	}
}

func TestP34Through(t *testing.T) {
	r := rand.New(rand.NewSource(34))
	for _, q := range primes {
		for range 60 {
			xs := pointsOf(r, r.Intn(9), q)
			c := numbersOf(r, r.Intn(len(xs)+1), q)
			ys := make([]uint64, len(xs))
			for i, x := range xs {
				ys[i] = valueOf(c, x, q) + q*uint64(r.Intn(2))
			}
			p := through(t, xs, ys, q)
			if len(p) != len(xs) || !poly.Same(p, c, q) {
				t.Fatalf("through the values of %v at %v modulo %d: %v", c, xs, q, p)
			}
			slices.Reverse(xs)
			slices.Reverse(ys)
			sameList(t, "the pairs in another order", through(t, xs, ys, q), p)
		}
	}
	// Of all polynomials with three coefficients modulo 5 one goes through three pairs.
	const q = 5
	xs := []uint64{4, 0, 2}
	for n := range uint64(q * q * q) {
		ys := []uint64{n % q, n / q % q, n / q / q}
		found := 0
		p := through(t, xs, ys, q)
		for m := range uint64(q * q * q) {
			c := []uint64{m % q, m / q % q, m / q / q}
			if poly.Eval(c, 4, q) == ys[0] && poly.Eval(c, 0, q) == ys[1] && poly.Eval(c, 2, q) == ys[2] {
				found++
				sameList(t, "the only one", p, c)
			}
		}
		if found != 1 {
			t.Fatal(found, "polynomials through", ys)
		}
	}
}

func TestP35Weights(t *testing.T) {
	r := rand.New(rand.NewSource(35))
	for _, q := range primes {
		for range 60 {
			xs := pointsOf(r, r.Intn(9), q)
			at := numbersOf(r, 1, q)[0]
			w := weights(t, xs, at, q)
			if len(w) != len(xs) {
				t.Fatal(len(w), "weights of", len(xs), "points")
			}
			c := numbersOf(r, r.Intn(len(xs)+1), q)
			value, all := uint64(0), uint64(0)
			for i, x := range xs {
				value = mod.Add(value, mod.Mul(w[i], valueOf(c, x, q), q), q)
				all = mod.Add(all, w[i], q)
			}
			if value != valueOf(c, at, q) {
				t.Fatalf("weights %v of %v at %d modulo %d give %d for %v", w, xs, at, q, value, c)
			}
			if len(xs) > 0 && all != 1 {
				t.Fatalf("weights %v of %v at %d modulo %d add up to %d", w, xs, at, q, all)
			}
			for i, x := range xs {
				unit := make([]uint64, len(xs))
				unit[i] = 1
				sameList(t, "weights at a point", weights(t, xs, x, q), unit)
				if x <= math.MaxUint64-q {
					sameList(t, "weights at a point, q more", weights(t, xs, x+q, q), unit)
				}
			}
		}
	}
}

func TestP36Roots(t *testing.T) {
	for _, q := range []uint64{2, 3, 5, 7} {
		count := q * q * q * q
		for n := range count {
			c := []uint64{n % q, n / q % q, n / q / q % q, n / q / q / q}
			roots := 0
			for x := range q {
				if poly.Eval(c, x, q) == 0 {
					roots++
				}
			}
			if d := poly.Degree(c, q); d >= 0 && roots > d {
				t.Fatalf("%v modulo %d: %d roots, degree %d", c, q, roots, d)
			}
		}
	}
	// As many roots as the degree, and not one more.
	const q = 11
	product := []uint64{1}
	for x := range uint64(q) {
		product = poly.Times(product, []uint64{q - x, 1}, q)
		for y := range uint64(q) {
			if (poly.Eval(product, y, q) == 0) != (y <= x) {
				t.Fatalf("the product of the factors up to %d: %d at %d", x, poly.Eval(product, y, q), y)
			}
		}
	}
}

// TestR1: nothing that is handed in is changed, and no answer shares memory with it.
func TestR1(t *testing.T) {
	const q = 11
	a, b, none := []uint64{25, 3, 14, 11}, []uint64{16, 40, 9, 22}, []uint64{}
	xs, ys := []uint64{14, 2, 30, 0}, []uint64{50, 61, 5, 7}
	kept := [][]uint64{slices.Clone(a), slices.Clone(b), slices.Clone(xs), slices.Clone(ys)}
	check := func(what string) {
		t.Helper()
		for i, l := range [][]uint64{a, b, xs, ys} {
			if !slices.Equal(l, kept[i]) {
				t.Fatalf("%s changed %v to %v", what, kept[i], l)
			}
		}
	}
	poly.Eval(a, 13, q)
	poly.Degree(a, q)
	poly.Same(a, b, q)
	check("a call")
	for what, answer := range map[string][]uint64{
		"Sum":                     poly.Sum(a, b, q),
		"Sum of one twice":        poly.Sum(a, a, q),
		"Sum, the first is none":  poly.Sum(none, b, q),
		"Sum, the second is none": poly.Sum(a, none, q),
		"Sum, reduced already":    poly.Sum([]uint64{}, xs[1:2], q),
		"Scale":                   poly.Scale(a, 1, q),
		"Times":                   poly.Times(a, b, q),
		"Times 1":                 poly.Times(a, []uint64{1}, q),
		"1 Times":                 poly.Times([]uint64{1}, b, q),
		"Times of one twice":      poly.Times(a, a, q),
		"Weights":                 weights(t, xs, 13, q),
		"Through":                 through(t, xs, ys, q),
		"Through the same":        through(t, xs, xs, q),
	} {
		check(what)
		for i := range answer[:cap(answer)] {
			answer[:cap(answer)][i] = 99
		}
		check("writing into the answer of " + what)
	}
	for _, spare := range [][]uint64{make([]uint64, 0, 8), append(make([]uint64, 0, 8), 1, 2)} {
		poly.Sum(spare, a, q)
		poly.Times(spare, a, q)
		through(t, spare, spare, q)
		weights(t, spare, 3, q)
		for i, x := range spare[:8] {
			if i >= len(spare) && x != 0 {
				t.Fatal("written beyond the end of an argument:", spare[:8])
			}
		}
	}
	if w := weights(t, xs, 13, q); !slices.Equal(w, weights(t, xs, 13, q)) {
		t.Error("the same call answers otherwise")
	}
}
