package fixed_test

import (
	"math"
	"math/big"
	"math/rand"
	"slices"
	"testing"

	"consistory/api"
	"consistory/fixed"
)

const (
	mersenne = 1<<61 - 1 // the greatest prime up to MaxP
	half     = 1<<60 - 1 // half of it, rounded down
)

// primes are the least one, small ones, and great ones.
var primes = []uint64{2, 3, 5, 7, 11, 13, 101, 1321, 8796095119369, 1152921504606845789, 2305843009213691579, mersenne}

// moduli are allowed ones: the least and the greatest, primes and others.
var moduli = append([]uint64{1, 4, 6, 9, 12, 35, 561, 1 << 32, 1<<32 - 1, mersenne - 1, api.MaxP}, primes...)

// wrong are no moduli: 0, and numbers above MaxP, the last four of them primes.
var wrong = []uint64{0, api.MaxP + 1, api.MaxP + 2, 1 << 62, 1 << 63, math.MaxUint64,
	2305843009213693967, 2305843009213699919, 1<<63 - 25, math.MaxUint64 - 58}

func bigOf(x uint64) *big.Int { return new(big.Int).SetUint64(x) }

// numberOf returns the number of an integer by the definition.
func numberOf(n *big.Int, q uint64) uint64 {
	if q == 0 || q > api.MaxP {
		return 0
	}
	return new(big.Int).Mod(n, bigOf(q)).Uint64()
}

// integerOf returns the integer of a number by the definition.
func integerOf(x, q uint64) *big.Int {
	if q == 0 || q > api.MaxP {
		return new(big.Int)
	}
	n, top := bigOf(x), new(big.Int).Sub(bigOf(q), big.NewInt(1))
	n.Mod(n, bigOf(q))
	if n.Cmp(top.Quo(top, big.NewInt(2))) > 0 {
		n.Sub(n, bigOf(q))
	}
	return n
}

func usableHere(p api.Params) bool {
	for _, c := range [][2]int64{{int64(p.K), api.MaxK}, {int64(p.D), api.MaxD}, {p.M, api.MaxEntry}, {p.X, api.MaxEntry}} {
		if c[0] < 0 || c[0] > c[1] {
			return false
		}
	}
	return true
}

func allWithin(l []int64, most int64) bool {
	for _, n := range l {
		if new(big.Int).Abs(big.NewInt(n)).Cmp(big.NewInt(most)) > 0 {
			return false
		}
	}
	return true
}

// validModel tells by the definition whether a model is valid.
func validModel(p api.Params, m api.Model) bool {
	valid := usableHere(p) && len(m.W) == p.K && len(m.B) == p.K && allWithin(m.B, p.M)
	for _, row := range m.W {
		valid = valid && len(row) == p.D && allWithin(row, p.M)
	}
	return valid
}

// errorOf returns the error of a query by the definition.
func errorOf(p api.Params, x []int64) api.Errno {
	if !usableHere(p) || len(x) != p.D {
		return api.ErrForm
	}
	if !allWithin(x, p.X) {
		return api.ErrRange
	}
	return api.OK
}

func secretsOf(p api.Params, m api.Model) []uint64 {
	var l []uint64
	if validModel(p, m) {
		for k := range p.K {
			for _, n := range append(slices.Clone(m.W[k]), m.B[k]) {
				l = append(l, numberOf(big.NewInt(n), p.Q))
			}
		}
	}
	return l
}

func rowOf(p api.Params, x []int64) []uint64 {
	var l []uint64
	if usableHere(p) {
		for i := range p.D {
			l = append(l, 0)
			if i < len(x) {
				l[i] = numberOf(big.NewInt(x[i]), p.Q)
			}
		}
		l = append(l, numberOf(big.NewInt(1), p.Q))
	}
	return l
}

// productsOf returns the products by the definition: what is missing is 0.
func productsOf(p api.Params, l []uint64, x []int64) []uint64 {
	var products []uint64
	if usableHere(p) {
		for k := range p.K {
			sum := new(big.Int)
			for i := range p.D + 1 {
				factor := big.NewInt(1)
				if i < p.D {
					factor = big.NewInt(0)
					if i < len(x) {
						factor = big.NewInt(x[i])
					}
				}
				if place := k*(p.D+1) + i; place < len(l) {
					sum.Add(sum, factor.Mul(factor, bigOf(l[place])))
				}
			}
			products = append(products, numberOf(sum, p.Q))
		}
	}
	return products
}

func scoresOf(p api.Params, m api.Model, x []int64) []int64 {
	var scores []int64
	if validModel(p, m) && errorOf(p, x) == api.OK {
		for k := range p.K {
			sum := big.NewInt(m.B[k])
			for i := range p.D {
				sum.Add(sum, new(big.Int).Mul(big.NewInt(m.W[k][i]), big.NewInt(x[i])))
			}
			scores = append(scores, sum.Int64())
		}
	}
	return scores
}

// fits tells by the definition whether scores never wrap around.
func fits(p api.Params) bool {
	most := new(big.Int).Mul(big.NewInt(int64(p.D)), big.NewInt(p.M))
	most.Mul(most, big.NewInt(p.X)).Add(most, big.NewInt(p.M)).Lsh(most, 1)
	return most.Cmp(bigOf(p.Q)) < 0
}

// anyInteger returns an integer from -most to most, often one of the ends, or 0.
func anyInteger(r *rand.Rand, most int64) int64 {
	switch r.Intn(6) {
	case 0:
		return most
	case 1:
		return -most
	case 2:
		return 0
	default:
		return r.Int63n(2*most+1) - most
	}
}

// wildInteger returns any integer of 64 bits, often one about the limits.
func wildInteger(r *rand.Rand, q uint64) int64 {
	sign := int64(1 - 2*r.Intn(2))
	switch r.Intn(7) {
	case 0:
		return sign * int64(r.Intn(4))
	case 1:
		return sign * (int64(q/2) + int64(r.Intn(5)) - 2)
	case 2:
		return sign * (int64(q) + int64(r.Intn(5)) - 2)
	case 3:
		return math.MinInt64 + int64(r.Intn(3))
	case 4:
		return math.MaxInt64 - int64(r.Intn(3))
	default:
		return int64(r.Uint64())
	}
}

// anyNumber returns a number modulo q, or beyond it.
func anyNumber(r *rand.Rand, q uint64) uint64 {
	switch r.Intn(8) {
	case 0:
		return q/2 + uint64(r.Intn(5)) - 2
	case 1:
		return q + uint64(r.Intn(5)) - 2
	case 2:
		return math.MaxUint64 - uint64(r.Intn(3))
	case 3:
		return uint64(r.Intn(3))
	case 4:
		return r.Uint64()
	default:
		return r.Uint64() % max(q, 1)
	}
}

func anyIntegers(r *rand.Rand, n int, most int64) []int64 {
	l := make([]int64, n)
	for i := range l {
		l[i] = anyInteger(r, most)
	}
	return l
}

func anyNumbers(r *rand.Rand, n int, q uint64) []uint64 {
	l := make([]uint64, n)
	for i := range l {
		l[i] = anyNumber(r, q)
	}
	return l
}

// anyModel returns a valid model.
func anyModel(r *rand.Rand, p api.Params) api.Model {
	m := api.Model{B: anyIntegers(r, p.K, p.M)}
	for range p.K {
		m.W = append(m.W, anyIntegers(r, p.D, p.M))
	}
	return m
}

// anyParams returns usable parameters modulo q, small ones and great ones.
func anyParams(r *rand.Rand, q uint64) api.Params {
	most := []int64{0, 1, 2, 3, 10, 1000, api.MaxEntry - 1, api.MaxEntry}
	return api.Params{Q: q, K: r.Intn(api.MaxK + 1), D: r.Intn(api.MaxD + 1), M: most[r.Intn(len(most))], X: most[r.Intn(len(most))]}
}

// visitAny visits usable parameters modulo many q, also such as are no moduli.
func visitAny(seed int64, rounds int, visit func(r *rand.Rand, p api.Params)) {
	r := rand.New(rand.NewSource(seed))
	for _, q := range append(slices.Clone(moduli), wrong...) {
		for range rounds {
			visit(r, anyParams(r, q))
		}
	}
}

// unusable are parameters of which one number is beyond its range.
func unusable() []api.Params {
	good := api.Params{Q: 101, K: 2, D: 1, M: 3, X: 2}
	var l []api.Params
	for _, n := range []int64{-1, -2, math.MinInt64, math.MinInt64 + 1, math.MaxInt64, math.MaxInt32, math.MinInt32, api.MaxEntry + 1} {
		for i := range 4 {
			p := good
			switch i {
			case 0:
				p.K = int(n)
			case 1:
				p.D = int(n)
			case 2:
				p.M = n
			default:
				p.X = n
			}
			l = append(l, p)
		}
	}
	k, d := good, good
	k.K, d.D = api.MaxK+1, api.MaxD+1
	return append(l, k, d)
}

func cloned(m api.Model) api.Model {
	c := api.Model{W: slices.Clone(m.W), B: slices.Clone(m.B)}
	for k := range c.W {
		c.W[k] = slices.Clone(c.W[k])
	}
	return c
}

func TestExamples(t *testing.T) {
	for _, c := range []struct {
		n int64
		x uint64
	}{{-3, 98}, {50, 50}, {-50, 51}} {
		if x := fixed.Num(c.n, 101); x != c.x {
			t.Errorf("Num(%d): %d", c.n, x)
		}
		if n := fixed.Int(c.x, 101); n != c.n {
			t.Errorf("Int(%d): %d", c.x, n)
		}
	}
	p := api.Params{K: 2, D: 1, M: 3, X: 2, Q: 101}
	m := api.Model{W: [][]int64{{2}, {-3}}, B: []int64{1, 0}}
	x := []int64{-2}
	if !fixed.May(p, m) || fixed.Query(p, x) != api.OK || !fixed.Same(m, cloned(m)) {
		t.Error("the model, or the query, is not valid, or not itself")
	}
	if l := fixed.Secrets(p, m); !slices.Equal(l, []uint64{2, 1, 98, 0}) {
		t.Error("Secrets:", l)
	}
	if l := fixed.Row(p, x); !slices.Equal(l, []uint64{99, 1}) {
		t.Error("Row:", l)
	}
	if l := fixed.Dot(p, fixed.Secrets(p, m), x); !slices.Equal(l, []uint64{98, 6}) {
		t.Error("Dot:", l)
	}
	if l := fixed.Scores(p, m, x); !slices.Equal(l, []int64{-3, 6}) {
		t.Error("Scores:", l)
	}
	if e := fixed.Query(p, []int64{3}); e != api.ErrRange {
		t.Error("Query of 3:", e)
	}
	if e := fixed.Query(p, []int64{1, 1}); e != api.ErrForm {
		t.Error("Query of 1 1:", e)
	}
}

func TestP71NumEdges(t *testing.T) {
	for _, c := range []struct {
		n int64
		q uint64
		x uint64
	}{
		{0, 1, 0}, {1, 1, 0}, {-1, 1, 0}, {math.MinInt64, 1, 0}, {math.MaxInt64, 1, 0},
		{0, 2, 0}, {1, 2, 1}, {-1, 2, 1}, {-2, 2, 0}, {3, 2, 1}, {math.MinInt64, 2, 0}, {math.MaxInt64, 2, 1}, {math.MinInt64 + 1, 2, 1},
		{-1, 12, 11}, {12, 12, 0}, {-12, 12, 0}, {13, 12, 1}, {-13, 12, 11}, {5, 12, 5}, {6, 12, 6}, {-6, 12, 6},
		{math.MinInt64, 101, 101 - 1<<63%101}, {math.MaxInt64, 101, (1<<63 - 1) % 101},
		{-1, mersenne, mersenne - 1}, {mersenne, mersenne, 0}, {-mersenne, mersenne, 0}, {-mersenne - 1, mersenne, mersenne - 1},
		{math.MinInt64, mersenne, mersenne - 4}, {math.MaxInt64, mersenne, 3}, {half + 1, mersenne, half + 1}, {-half, mersenne, half + 1},
		{-1, api.MaxP, api.MaxP - 1}, {api.MaxP, api.MaxP, 0}, {math.MinInt64, api.MaxP, 0}, {math.MaxInt64, api.MaxP, api.MaxP - 1}, {math.MinInt64 + 1, api.MaxP, 1},
		{5, 0, 0}, {-5, 0, 0}, {math.MinInt64, 0, 0}, {5, api.MaxP + 1, 0}, {-5, api.MaxP + 1, 0}, {-5, math.MaxUint64, 0}, {5, math.MaxUint64, 0},
	} {
		if x := fixed.Num(c.n, c.q); x != c.x || x != numberOf(big.NewInt(c.n), c.q) {
			t.Errorf("Num(%d, %d) is %d, not %d", c.n, c.q, x, c.x)
		}
	}
}

func TestP71IntEdges(t *testing.T) {
	for _, c := range []struct {
		x, q uint64
		n    int64
	}{
		{0, 1, 0}, {1, 1, 0}, {math.MaxUint64, 1, 0},
		{0, 2, 0}, {1, 2, -1}, {2, 2, 0}, {3, 2, -1}, {math.MaxUint64, 2, -1},
		{0, 3, 0}, {1, 3, 1}, {2, 3, -1}, {3, 3, 0}, {5, 3, -1},
		{5, 12, 5}, {6, 12, -6}, {7, 12, -5}, {11, 12, -1}, {12, 12, 0}, {17, 12, 5}, {18, 12, -6},
		{6, 13, 6}, {7, 13, -6}, {19, 13, 6}, {20, 13, -6},
		{half, mersenne, half}, {half + 1, mersenne, -half}, {mersenne - 1, mersenne, -1}, {mersenne, mersenne, 0}, {mersenne + half, mersenne, half},
		{math.MaxUint64, mersenne, 7}, {8*mersenne - 1, mersenne, -1},
		{half, api.MaxP, half}, {half + 1, api.MaxP, -half - 1}, {api.MaxP - 1, api.MaxP, -1}, {api.MaxP, api.MaxP, 0}, {math.MaxUint64, api.MaxP, -1},
		{5, 0, 0}, {math.MaxUint64, 0, 0}, {5, api.MaxP + 1, 0}, {api.MaxP, api.MaxP + 1, 0}, {5, math.MaxUint64, 0}, {math.MaxUint64 - 1, math.MaxUint64, 0},
	} {
		if n := fixed.Int(c.x, c.q); n != c.n || big.NewInt(n).Cmp(integerOf(c.x, c.q)) != 0 {
			t.Errorf("Int(%d, %d) is %d, not %d", c.x, c.q, n, c.n)
		}
	}
}

// TestP71Definition: anything modulo anything, held against the definition.
func TestP71Definition(t *testing.T) {
	r := rand.New(rand.NewSource(71))
	for _, q := range append(slices.Clone(moduli), wrong...) {
		for range 2000 {
			n, x := wildInteger(r, q), anyNumber(r, q)
			if got := fixed.Num(n, q); got != numberOf(big.NewInt(n), q) {
				t.Fatalf("Num(%d, %d) is %d", n, q, got)
			}
			if got := fixed.Int(x, q); big.NewInt(got).Cmp(integerOf(x, q)) != 0 {
				t.Fatalf("Int(%d, %d) is %d", x, q, got)
			}
		}
	}
}

// modelCase is a model, and whether it is valid by the parameters K 2, D 2, M 3.
type modelCase struct {
	what  string
	w     [][]int64
	b     []int64
	valid bool
}

func modelCases() []modelCase {
	one := []int64{1, 2}
	return []modelCase{
		{"an ordinary one", [][]int64{{1, -2}, {0, 3}}, []int64{-1, 2}, true},
		{"all 0", [][]int64{{0, 0}, {0, 0}}, []int64{0, 0}, true},
		{"all M", [][]int64{{3, 3}, {3, 3}}, []int64{3, 3}, true},
		{"all -M", [][]int64{{-3, -3}, {-3, -3}}, []int64{-3, -3}, true},
		{"the first entry above M", [][]int64{{4, 0}, {0, 0}}, []int64{0, 0}, false},
		{"the last of a row above M", [][]int64{{0, 4}, {0, 0}}, []int64{0, 0}, false},
		{"the last entry above M", [][]int64{{0, 0}, {0, 4}}, []int64{0, 0}, false},
		{"the first entry below -M", [][]int64{{-4, 0}, {0, 0}}, []int64{0, 0}, false},
		{"the last entry below -M", [][]int64{{0, 0}, {0, -4}}, []int64{0, 0}, false},
		{"an entry that is the least", [][]int64{{0, 0}, {math.MinInt64, 0}}, []int64{0, 0}, false},
		{"an entry that is the greatest", [][]int64{{0, 0}, {math.MaxInt64, 0}}, []int64{0, 0}, false},
		{"the first bias above M", [][]int64{{0, 0}, {0, 0}}, []int64{4, 0}, false},
		{"the last bias above M", [][]int64{{0, 0}, {0, 0}}, []int64{0, 4}, false},
		{"the first bias below -M", [][]int64{{0, 0}, {0, 0}}, []int64{-4, 0}, false},
		{"the last bias below -M", [][]int64{{0, 0}, {0, 0}}, []int64{0, -4}, false},
		{"a bias that is the least", [][]int64{{0, 0}, {0, 0}}, []int64{math.MinInt64, 0}, false},
		{"an entry that only as a number is within", [][]int64{{101, 0}, {0, 0}}, []int64{0, 0}, false},
		{"nothing", nil, nil, false},
		{"empty lists", [][]int64{}, []int64{}, false},
		{"no rows", nil, []int64{0, 0}, false},
		{"one row", [][]int64{one}, []int64{0, 0}, false},
		{"one row and one bias", [][]int64{one}, []int64{0}, false},
		{"three rows", [][]int64{one, one, one}, []int64{0, 0}, false},
		{"three rows and biases", [][]int64{one, one, one}, []int64{0, 0, 0}, false},
		{"no biases", [][]int64{one, one}, nil, false},
		{"one bias", [][]int64{one, one}, []int64{0}, false},
		{"three biases", [][]int64{one, one}, []int64{0, 0, 0}, false},
		{"the first row nil", [][]int64{nil, one}, []int64{0, 0}, false},
		{"the last row nil", [][]int64{one, nil}, []int64{0, 0}, false},
		{"both rows empty", [][]int64{{}, {}}, []int64{0, 0}, false},
		{"the first row too short", [][]int64{{1}, one}, []int64{0, 0}, false},
		{"the last row too short", [][]int64{one, {1}}, []int64{0, 0}, false},
		{"the first row too long", [][]int64{{1, 2, 3}, one}, []int64{0, 0}, false},
		{"the last row too long", [][]int64{one, {1, 2, 0}}, []int64{0, 0}, false},
		{"one too short, one too long", [][]int64{{1}, {1, 2, 3}}, []int64{0, 0}, false},
	}
}

// TestP72May: what is not valid has no secrets and no scores.
func TestP72May(t *testing.T) {
	p, x := api.Params{Q: 101, K: 2, D: 2, M: 3, X: 2}, []int64{1, -2}
	for _, c := range modelCases() {
		m := api.Model{W: c.w, B: c.b}
		if got := fixed.May(p, m); got != c.valid || got != validModel(p, m) {
			t.Errorf("%s: May is %t", c.what, got)
		}
		if l := fixed.Secrets(p, m); (len(l) == 6) != c.valid || !slices.Equal(l, secretsOf(p, m)) {
			t.Errorf("%s: Secrets are %v", c.what, l)
		}
		if l := fixed.Scores(p, m, x); (len(l) == 2) != c.valid || !slices.Equal(l, scoresOf(p, m, x)) {
			t.Errorf("%s: Scores are %v", c.what, l)
		}
	}
}

// TestP72Least: K, D, M and X that are 0, and those that are the greatest.
func TestP72Least(t *testing.T) {
	const top = api.MaxEntry
	long := []int64{top, -top, 0, top}
	for _, c := range []struct {
		what  string
		p     api.Params
		m     api.Model
		x     []int64
		valid bool
		e     api.Errno
	}{
		{"all 0", api.Params{}, api.Model{}, nil, true, api.OK},
		{"all 0, empty lists", api.Params{}, api.Model{W: [][]int64{}, B: []int64{}}, []int64{}, true, api.OK},
		{"K 0, a row", api.Params{}, api.Model{W: [][]int64{nil}}, nil, false, api.OK},
		{"K 0, a bias", api.Params{}, api.Model{B: []int64{0}}, nil, false, api.OK},
		{"K 0, D 2", api.Params{D: 2, M: 1, X: 1}, api.Model{}, []int64{1, -1}, true, api.OK},
		{"D 0", api.Params{K: 2, M: 1, X: 1}, api.Model{W: [][]int64{nil, {}}, B: []int64{1, -1}}, nil, true, api.OK},
		{"D 0, no rows", api.Params{K: 2, M: 1, X: 1}, api.Model{B: []int64{1, -1}}, nil, false, api.OK},
		{"D 0, an entry", api.Params{K: 1, M: 1, X: 1}, api.Model{W: [][]int64{{0}}, B: []int64{1}}, []int64{0}, false, api.ErrForm},
		{"D 0, a bias beyond", api.Params{K: 1, M: 1, X: 1}, api.Model{W: [][]int64{nil}, B: []int64{2}}, nil, false, api.OK},
		{"M and X 0", api.Params{K: 1, D: 1}, api.Model{W: [][]int64{{0}}, B: []int64{0}}, []int64{0}, true, api.OK},
		{"M and X 0, 1", api.Params{K: 1, D: 1}, api.Model{W: [][]int64{{1}}, B: []int64{0}}, []int64{1}, false, api.ErrRange},
		{"M and X 0, -1", api.Params{K: 1, D: 1}, api.Model{W: [][]int64{{0}}, B: []int64{-1}}, []int64{-1}, false, api.ErrRange},
		{"M is not X", api.Params{K: 1, D: 1, M: 5, X: 1}, api.Model{W: [][]int64{{5}}, B: []int64{-5}}, []int64{5}, true, api.ErrRange},
		{"X is not M", api.Params{K: 1, D: 1, M: 1, X: 5}, api.Model{W: [][]int64{{5}}, B: []int64{1}}, []int64{5}, false, api.OK},
		{"the greatest", api.Params{K: api.MaxK, D: api.MaxD, M: top, X: top}, api.Model{W: [][]int64{long, long}, B: []int64{-top, top}}, long, true, api.OK},
		{"one above", api.Params{K: 1, D: 1, M: top, X: top}, api.Model{W: [][]int64{{top + 1}}, B: []int64{0}}, []int64{top + 1}, false, api.ErrRange},
		{"one below", api.Params{K: 1, D: 1, M: top, X: top}, api.Model{W: [][]int64{{0}}, B: []int64{-top - 1}}, []int64{-top - 1}, false, api.ErrRange},
	} {
		for _, q := range []uint64{0, 1, 101, mersenne, math.MaxUint64} {
			c.p.Q = q
			if got := fixed.May(c.p, c.m); got != c.valid {
				t.Errorf("%s: May is %t", c.what, got)
			}
			if e := fixed.Query(c.p, c.x); e != c.e {
				t.Errorf("%s: Query is %d, not %d", c.what, e, c.e)
			}
			if l := fixed.Scores(c.p, c.m, c.x); !slices.Equal(l, scoresOf(c.p, c.m, c.x)) {
				t.Errorf("%s: Scores are %v", c.what, l)
			}
		}
	}
}

// TestP72Unusable: with parameters that are not usable there is nothing.
func TestP72Unusable(t *testing.T) {
	one := api.Model{W: [][]int64{{1}, {1}}, B: []int64{0, 0}}
	for _, p := range unusable() {
		for _, m := range []api.Model{{}, one, {W: one.W[:1], B: one.B[:1]}, {W: [][]int64{nil, nil}, B: one.B},
			{W: [][]int64{{1}, {1}, {1}}, B: []int64{0, 0, 0}}, {W: [][]int64{{1, 1, 1, 1, 1}, {1, 1, 1, 1, 1}}, B: []int64{0, 0}}} {
			if fixed.May(p, m) || fixed.Secrets(p, m) != nil {
				t.Errorf("by %v the model %v is valid", p, m)
			}
			if l := fixed.Scores(p, m, []int64{1}); l != nil {
				t.Errorf("by %v the scores of %v are %v", p, m, l)
			}
		}
		for _, x := range [][]int64{nil, {}, {1}, {1, 1}, {0, 0, 0, 0, 0}, {math.MinInt64}} {
			if e := fixed.Query(p, x); e != api.ErrForm {
				t.Errorf("by %v the query %v is %d", p, x, e)
			}
			if fixed.Row(p, x) != nil || fixed.Dot(p, []uint64{1, 2, 3, 4}, x) != nil || fixed.Dot(p, nil, x) != nil {
				t.Errorf("by %v the query %v has a row, or products", p, x)
			}
		}
	}
}

// TestP72Others: the other parameters do not count, valid or not.
func TestP72Others(t *testing.T) {
	m, x := api.Model{W: [][]int64{{2}, {-3}}, B: []int64{1, 0}}, []int64{-2}
	for _, p := range []api.Params{{}, {P: 23, Q: 11, G: 4, H: 9, Nodes: 4, N: 4, T: 1, R: 1}, {P: math.MaxUint64, Nodes: -1, N: -1, T: -1, R: -1},
		{Nodes: math.MaxInt64, N: math.MaxInt64, T: math.MaxInt64, R: math.MaxInt64}} {
		p.Q, p.K, p.D, p.M, p.X = 101, 2, 1, 3, 2
		if !fixed.May(p, m) || fixed.Query(p, x) != api.OK {
			t.Errorf("by %v the model, or the query, is not valid", p)
		}
		if l := fixed.Scores(p, m, x); !slices.Equal(l, []int64{-3, 6}) {
			t.Errorf("by %v the scores are %v", p, l)
		}
		if l := fixed.Dot(p, fixed.Secrets(p, m), x); !slices.Equal(l, []uint64{98, 6}) || !slices.Equal(fixed.Row(p, x), []uint64{99, 1}) {
			t.Errorf("by %v the products are %v", p, l)
		}
	}
}

// TestP72QueryErrors: each error by itself, and before those that are after it.
func TestP72QueryErrors(t *testing.T) {
	p := api.Params{Q: 101, K: 2, D: 2, M: 3, X: 2}
	bad := p
	bad.K = -1
	for _, c := range []struct {
		what string
		p    api.Params
		x    []int64
		e    api.Errno
	}{
		{"an ordinary one", p, []int64{1, -1}, api.OK},
		{"all X", p, []int64{2, 2}, api.OK},
		{"all -X", p, []int64{-2, -2}, api.OK},
		{"all 0", p, []int64{0, 0}, api.OK},
		{"parameters alone", bad, []int64{1, -1}, api.ErrForm},
		{"nil", p, nil, api.ErrForm},
		{"empty", p, []int64{}, api.ErrForm},
		{"too short", p, []int64{1}, api.ErrForm},
		{"too long", p, []int64{1, 1, 0}, api.ErrForm},
		{"the first above X", p, []int64{3, 0}, api.ErrRange},
		{"the last above X", p, []int64{0, 3}, api.ErrRange},
		{"the first below -X", p, []int64{-3, 0}, api.ErrRange},
		{"the last below -X", p, []int64{0, -3}, api.ErrRange},
		{"the least", p, []int64{0, math.MinInt64}, api.ErrRange},
		{"the greatest", p, []int64{math.MaxInt64, 0}, api.ErrRange},
		{"only as a number within", p, []int64{101, 0}, api.ErrRange},
		{"parameters, and an entry", bad, []int64{3, 0}, api.ErrForm},
		{"parameters, and too short", bad, []int64{1}, api.ErrForm},
		{"too short, and an entry", p, []int64{3}, api.ErrForm},
		{"too long, and an entry", p, []int64{1, 1, 3}, api.ErrForm},
		{"all of them", bad, []int64{3}, api.ErrForm},
	} {
		if e := fixed.Query(c.p, c.x); e != c.e || e != errorOf(c.p, c.x) {
			t.Errorf("%s: %d, not %d", c.what, e, c.e)
		}
		if l := fixed.Scores(c.p, api.Model{W: [][]int64{{1, 1}, {1, 1}}, B: []int64{0, 0}}, c.x); (len(l) > 0) != (c.e == api.OK) {
			t.Errorf("%s: Scores are %v", c.what, l)
		}
	}
}

// TestP72Same: every two of these models are different, unless they are the same one.
func TestP72Same(t *testing.T) {
	models := [][]api.Model{
		{{}, {W: [][]int64{}}, {B: []int64{}}, {W: [][]int64{}, B: []int64{}}},
		{{W: [][]int64{nil}}, {W: [][]int64{{}}, B: []int64{}}},
		{{W: [][]int64{nil, {}}}, {W: [][]int64{{}, nil}}},
		{{B: []int64{0}}},
		{{B: []int64{0, 0}}},
		{{W: [][]int64{{0}}}},
		{{W: [][]int64{{0, 0}}}},
		{{W: [][]int64{{0}, {0}}}},
		{{W: [][]int64{nil, {0}}}, {W: [][]int64{{}, {0}}}},
		{{W: [][]int64{{0}, nil}}, {W: [][]int64{{0}, {}}}},
		{{W: [][]int64{nil}, B: []int64{0}}},
		{{W: [][]int64{{1, 2}, {3, 4}}, B: []int64{5, 6}}},
		{{W: [][]int64{{3, 4}, {1, 2}}, B: []int64{6, 5}}},
		{{W: [][]int64{{0, 2}, {3, 4}}, B: []int64{5, 6}}},
		{{W: [][]int64{{1, 2}, {3, 0}}, B: []int64{5, 6}}},
		{{W: [][]int64{{1, 2}, {3, 4}}, B: []int64{0, 6}}},
		{{W: [][]int64{{1, 2}, {3, 4}}, B: []int64{5, 0}}},
		{{W: [][]int64{{1, 2}, {3, 4}}, B: []int64{6, 5}}},
		{{W: [][]int64{{1, 2}, {3, 4}}, B: []int64{5}}},
		{{W: [][]int64{{1, 2}, {3, 4}}, B: []int64{5, 6, 0}}},
		{{W: [][]int64{{1, 2}, {3}}, B: []int64{4, 5, 6}}},
		{{W: [][]int64{{1, 2, 3}, {4}}, B: []int64{5, 6}}},
		{{W: [][]int64{{1, 2}, {3, 4}, nil}, B: []int64{5, 6}}},
		{{W: [][]int64{{1, 2}, {3, 4, 0}}, B: []int64{5, 6}}},
		{{W: [][]int64{{1, 2}}, B: []int64{5, 6}}},
		{{W: [][]int64{{math.MinInt64, 2}, {3, 4}}, B: []int64{5, 6}}},
		{{W: [][]int64{{math.MaxInt64, 2}, {3, 4}}, B: []int64{5, 6}}},
	}
	for i, alike := range models {
		for j, others := range models {
			for _, a := range alike {
				for _, b := range others {
					if fixed.Same(a, cloned(b)) != (i == j) || fixed.Same(cloned(a), b) != (i == j) || !fixed.Same(a, a) {
						t.Errorf("Same(%v, %v) is not %t", a, b, i == j)
					}
				}
			}
		}
	}
}

// TestP72Definition: models and queries that are valid but for one thing, or nothing, held against the definition.
func TestP72Definition(t *testing.T) {
	visitAny(72, 300, func(r *rand.Rand, p api.Params) {
		m, x := anyModel(r, p), anyIntegers(r, p.D, p.X)
		broken, strange := cloned(m), slices.Clone(x)
		spoil(r, p, &broken)
		switch entry := wildInteger(r, uint64(2*p.X+1)); r.Intn(3) {
		case 0:
			strange = append(strange, 0)
		case 1:
			strange = strange[:r.Intn(len(strange)+1)]
		default:
			strange = append([]int64{entry}, strange...)[:len(strange)]
		}
		if !fixed.May(p, m) || fixed.Query(p, x) != api.OK {
			t.Fatalf("by %v the model %v, or the query %v, is not valid", p, m, x)
		}
		if got := fixed.May(p, broken); got != validModel(p, broken) {
			t.Fatalf("May(%v, %v) is %t", p, broken, got)
		}
		if e := fixed.Query(p, strange); e != errorOf(p, strange) {
			t.Fatalf("Query(%v, %v) is %d", p, strange, e)
		}
		if got := fixed.Same(m, broken); got != sameText(m, broken) {
			t.Fatalf("Same(%v, %v) is %t", m, broken, got)
		}
		for _, x := range [][]int64{x, strange} {
			for _, m := range []api.Model{m, broken} {
				if l := fixed.Scores(p, m, x); !slices.Equal(l, scoresOf(p, m, x)) {
					t.Fatalf("Scores(%v, %v, %v) are %v", p, m, x, l)
				}
				if l := fixed.Secrets(p, m); !slices.Equal(l, secretsOf(p, m)) {
					t.Fatalf("Secrets(%v, %v) are %v", p, m, l)
				}
			}
		}
	})
}

// spoil changes one thing of a model: often it is not valid then.
func spoil(r *rand.Rand, p api.Params, m *api.Model) {
	entry := wildInteger(r, uint64(2*p.M+1))
	kind := r.Intn(7)
	if kind < 3 && len(m.W) == 0 {
		return
	}
	switch kind {
	case 0:
		k := r.Intn(len(m.W))
		m.W[k] = append(m.W[k], 0)
	case 1:
		k := r.Intn(len(m.W))
		m.W[k] = m.W[k][:r.Intn(len(m.W[k])+1)]
	case 2:
		if k := r.Intn(len(m.W)); p.D > 0 {
			m.W[k][r.Intn(p.D)] = entry
		}
	case 3:
		m.W = append(m.W, make([]int64, p.D))
	case 4:
		m.B = append(m.B, 0)
	case 5:
		m.B = m.B[:r.Intn(len(m.B)+1)]
	default:
		if p.K > 0 {
			m.B[r.Intn(p.K)] = entry
		}
	}
}

// sameText tells whether two models are the same when they are written out one number after another, with the lengths.
func sameText(a, b api.Model) bool {
	written := func(m api.Model) []int64 {
		l := []int64{int64(len(m.W)), int64(len(m.B))}
		for _, row := range m.W {
			l = append(append(l, int64(len(row))), row...)
		}
		return append(l, m.B...)
	}
	return slices.Equal(written(a), written(b))
}

func TestP73RowEdges(t *testing.T) {
	p := api.Params{Q: 11, K: 1, D: 2, M: 3, X: 2}
	for _, c := range []struct {
		what string
		d    int
		q    uint64
		x    []int64
		want []uint64
	}{
		{"an ordinary one", 2, 11, []int64{1, -2}, []uint64{1, 9, 1}},
		{"entries that are X and -X", 2, 11, []int64{2, -2}, []uint64{2, 9, 1}},
		{"entries beyond X", 2, 11, []int64{3, -25}, []uint64{3, 8, 1}},
		{"the least and the greatest", 2, 11, []int64{math.MinInt64, math.MaxInt64}, []uint64{3, 7, 1}},
		{"nil", 2, 11, nil, []uint64{0, 0, 1}},
		{"empty", 2, 11, []int64{}, []uint64{0, 0, 1}},
		{"too short", 2, 11, []int64{-1}, []uint64{10, 0, 1}},
		{"too long", 2, 11, []int64{-1, 4, 5}, []uint64{10, 4, 1}},
		{"D 0", 0, 11, nil, []uint64{1}},
		{"D 0, an entry", 0, 11, []int64{7}, []uint64{1}},
		{"D 4", 4, 11, []int64{1, 2, 3, -1}, []uint64{1, 2, 3, 10, 1}},
		{"modulo 1", 2, 1, []int64{1, -2}, []uint64{0, 0, 0}},
		{"modulo 2", 2, 2, []int64{1, -2}, []uint64{1, 0, 1}},
		{"modulo MaxP", 2, api.MaxP, []int64{1, -2}, []uint64{1, api.MaxP - 2, 1}},
		{"modulo 0", 2, 0, []int64{1, -2}, []uint64{0, 0, 0}},
		{"modulo MaxP + 1", 2, api.MaxP + 1, []int64{1, -2}, []uint64{0, 0, 0}},
		{"modulo the greatest", 2, math.MaxUint64, []int64{1}, []uint64{0, 0, 0}},
	} {
		p.D, p.Q = c.d, c.q
		if l := fixed.Row(p, c.x); !slices.Equal(l, c.want) || !slices.Equal(l, rowOf(p, c.x)) {
			t.Errorf("%s: Row is %v, not %v", c.what, l, c.want)
		}
	}
}

func TestP73DotEdges(t *testing.T) {
	for _, c := range []struct {
		what string
		k, d int
		q    uint64
		l    []uint64
		x    []int64
		want []uint64
	}{
		{"an ordinary one", 2, 2, 11, []uint64{1, 2, 3, 4, 5, 6}, []int64{1, -2}, []uint64{0, 0}},
		{"each value by itself", 2, 2, 101, []uint64{1, 2, 3, 4, 5, 6}, []int64{10, 7}, []uint64{27, 81}},
		{"values that are nil", 2, 2, 11, nil, []int64{1, 2}, []uint64{0, 0}},
		{"no values", 2, 2, 11, []uint64{}, []int64{1, 2}, []uint64{0, 0}},
		{"one value", 2, 2, 11, []uint64{5}, []int64{3, 2}, []uint64{4, 0}},
		{"the bias missing", 2, 2, 11, []uint64{1, 2}, []int64{3, 2}, []uint64{7, 0}},
		{"one row of two", 2, 2, 11, []uint64{1, 2, 3}, []int64{3, 2}, []uint64{10, 0}},
		{"the last bias missing", 2, 1, 11, []uint64{1, 2, 3}, []int64{3}, []uint64{5, 9}},
		{"one value too many", 2, 1, 11, []uint64{1, 2, 3, 4, 5}, []int64{3}, []uint64{5, 2}},
		{"rows too many", 1, 1, 11, []uint64{1, 2, 3, 4, 5, 6}, []int64{3}, []uint64{5}},
		{"values from Q on", 1, 2, 11, []uint64{12, 24, 36}, []int64{1, 1}, []uint64{6}},
		{"values of 64 bits", 1, 1, mersenne, []uint64{math.MaxUint64, math.MaxUint64}, []int64{math.MinInt64}, []uint64{mersenne - 21}},
		{"a query that is nil", 2, 2, 11, []uint64{1, 2, 3, 4, 5, 6}, nil, []uint64{3, 6}},
		{"no entries", 2, 2, 11, []uint64{1, 2, 3, 4, 5, 6}, []int64{}, []uint64{3, 6}},
		{"a query too short", 2, 2, 11, []uint64{1, 2, 3, 4, 5, 6}, []int64{2}, []uint64{5, 3}},
		{"a query too long", 2, 2, 11, []uint64{1, 2, 3, 4, 5, 6}, []int64{2, 1, 7, 8}, []uint64{7, 8}},
		{"entries beyond X", 1, 1, 11, []uint64{1, 0}, []int64{12}, []uint64{1}},
		{"the least entry", 1, 1, 11, []uint64{1, 0}, []int64{math.MinInt64}, []uint64{3}},
		{"both nil", 2, 2, 11, nil, nil, []uint64{0, 0}},
		{"K 0", 0, 2, 11, []uint64{1, 2, 3}, []int64{1, 2}, nil},
		{"K 0, D 0", 0, 0, 11, []uint64{1, 2, 3}, nil, nil},
		{"D 0", 2, 0, 11, []uint64{12, 5, 7}, []int64{4}, []uint64{1, 5}},
		{"modulo 1", 2, 1, 1, []uint64{1, 2, 3, 4}, []int64{3}, []uint64{0, 0}},
		{"modulo 2", 2, 1, 2, []uint64{1, 0, 1, 1}, []int64{-1}, []uint64{1, 0}},
		{"modulo 12, no prime", 2, 1, 12, []uint64{6, 1, 4, 0}, []int64{-2}, []uint64{1, 4}},
		{"modulo MaxP", 1, 1, api.MaxP, []uint64{1, api.MaxP}, []int64{-1}, []uint64{api.MaxP - 1}},
		{"modulo 0", 2, 1, 0, []uint64{1, 2, 3, 4}, []int64{3}, []uint64{0, 0}},
		{"modulo MaxP + 1", 2, 1, api.MaxP + 1, []uint64{1, 2, 3, 4}, []int64{3}, []uint64{0, 0}},
		{"modulo the greatest", 1, 1, math.MaxUint64, []uint64{1, 2, 3, 4}, []int64{3}, []uint64{0}},
	} {
		p := api.Params{Q: c.q, K: c.k, D: c.d, M: 3, X: 2}
		if l := fixed.Dot(p, c.l, c.x); !slices.Equal(l, c.want) || !slices.Equal(l, productsOf(p, c.l, c.x)) {
			t.Errorf("%s: Dot is %v, not %v", c.what, l, c.want)
		}
	}
}

func TestP73ScoresEdges(t *testing.T) {
	const top = api.MaxEntry
	long, back := []int64{top, -top, top, top}, []int64{-top, top, -top, -top}
	for _, c := range []struct {
		what string
		p    api.Params
		m    api.Model
		x    []int64
		want []int64
	}{
		{"an ordinary one", api.Params{K: 2, D: 2, M: 9, X: 9}, api.Model{W: [][]int64{{1, 2}, {3, 4}}, B: []int64{5, 6}}, []int64{-7, 8}, []int64{14, 17}},
		{"biases alone", api.Params{K: 2, M: 9}, api.Model{W: [][]int64{nil, nil}, B: []int64{5, -6}}, nil, []int64{5, -6}},
		{"the greatest score", api.Params{K: 1, D: 4, M: top, X: top}, api.Model{W: [][]int64{long}, B: []int64{top}}, long, []int64{4*top*top + top}},
		{"the least score", api.Params{K: 1, D: 4, M: top, X: top}, api.Model{W: [][]int64{long}, B: []int64{-top}}, back, []int64{-4*top*top - top}},
		{"no rows", api.Params{D: 1, M: 1, X: 1}, api.Model{}, []int64{1}, nil},
		{"two rows that cross", api.Params{K: 2, D: 1, M: 1, X: 1}, api.Model{W: [][]int64{{1}, {-1}}, B: []int64{-1, 1}}, []int64{1}, []int64{0, 0}},
	} {
		for _, q := range append(slices.Clone(moduli), wrong...) {
			c.p.Q = q
			if l := fixed.Scores(c.p, c.m, c.x); !slices.Equal(l, c.want) {
				t.Errorf("%s, modulo %d: Scores are %v, not %v", c.what, q, l, c.want)
			}
		}
	}
}

// TestP73Definition: any row of values and any query, held against the definition.
func TestP73Definition(t *testing.T) {
	visitAny(73, 300, func(r *rand.Rand, p api.Params) {
		l, x := anyNumbers(r, r.Intn(p.K*(p.D+1)+3), p.Q), anyIntegers(r, r.Intn(p.D+3), p.X)
		if r.Intn(2) == 0 {
			for i := range x {
				x[i] = wildInteger(r, p.Q)
			}
		}
		if row := fixed.Row(p, x); !slices.Equal(row, rowOf(p, x)) {
			t.Fatalf("Row(%v, %v) is %v", p, x, row)
		}
		if products := fixed.Dot(p, l, x); !slices.Equal(products, productsOf(p, l, x)) {
			t.Fatalf("Dot(%v, %v, %v) is %v", p, l, x, products)
		}
	})
}

// TestP74All: modulo small numbers, all integers and numbers about these.
func TestP74All(t *testing.T) {
	for q := uint64(1); q <= 40; q++ {
		most := int64((q - 1) / 2)
		for n := -most; n <= most; n++ {
			if got := fixed.Int(fixed.Num(n, q), q); got != n {
				t.Errorf("modulo %d Int of Num(%d) is %d", q, n, got)
			}
		}
		for x := range 3 * q {
			if got := fixed.Num(fixed.Int(x, q), q); got != x%q {
				t.Errorf("modulo %d Num of Int(%d) is %d", q, x, got)
			}
		}
		for a := int64(-45); a <= 45; a++ {
			for b := int64(-45); b <= 45; b++ {
				x, y := fixed.Num(a, q), fixed.Num(b, q)
				if fixed.Num(a+b, q) != (x+y)%q || fixed.Num(a*b, q) != x*y%q {
					t.Fatalf("modulo %d the sum or the product of %d and %d is another one", q, a, b)
				}
			}
		}
	}
}

// TestP74Great: modulo anything, integers about the ends of what is represented.
func TestP74Great(t *testing.T) {
	r := rand.New(rand.NewSource(74))
	for _, q := range moduli {
		most := int64((q - 1) / 2)
		for range 1000 {
			n := anyInteger(r, most)
			if got := fixed.Int(fixed.Num(n, q), q); got != n {
				t.Fatalf("modulo %d Int of Num(%d) is %d", q, n, got)
			}
			x := anyNumber(r, q)
			if got := fixed.Num(fixed.Int(x, q), q); got != x%q {
				t.Fatalf("modulo %d Num of Int(%d) is %d", q, x, got)
			}
			a, b := wildInteger(r, q)/4, wildInteger(r, q)/4
			sum := new(big.Int).Add(bigOf(fixed.Num(a, q)), bigOf(fixed.Num(b, q)))
			if fixed.Num(a+b, q) != numberOf(sum, q) {
				t.Fatalf("modulo %d the sum of %d and %d is another one", q, a, b)
			}
			a, b = a>>30, b>>31
			product := new(big.Int).Mul(bigOf(fixed.Num(a, q)), bigOf(fixed.Num(b, q)))
			if fixed.Num(a*b, q) != numberOf(product, q) {
				t.Fatalf("modulo %d the product of %d and %d is another one", q, a, b)
			}
		}
	}
}

// TestP75Scores: where scores fit they are Int of the products; elsewhere they are at least congruent to them.
func TestP75Scores(t *testing.T) {
	fitting, others := 0, 0
	r := rand.New(rand.NewSource(75))
	check := func(p api.Params) {
		m, x := anyModel(r, p), anyIntegers(r, p.D, p.X)
		products, scores := fixed.Dot(p, fixed.Secrets(p, m), x), fixed.Scores(p, m, x)
		if len(products) != p.K || len(scores) != p.K {
			t.Fatalf("by %v there are %d products and %d scores", p, len(products), len(scores))
		}
		for k, score := range scores {
			if fixed.Num(score, p.Q) != products[k] {
				t.Fatalf("by %v the score %d of %v and %v is not congruent to %d", p, score, m, x, products[k])
			}
			if fits(p) && fixed.Int(products[k], p.Q) != score {
				t.Fatalf("by %v the score %d of %v and %v is not Int of %d", p, score, m, x, products[k])
			}
		}
		if fits(p) {
			fitting++
		} else {
			others++
		}
	}
	for _, q := range moduli {
		for range 300 {
			check(anyParams(r, q))
		}
	}
	for range 3000 {
		// The least Q for which scores fit, the next one, and the greatest for which they do not.
		p := anyParams(r, 0)
		p.Q = uint64(2*(int64(p.D)*p.M*p.X+p.M)) + uint64(r.Intn(3))
		if p.Q > 0 {
			check(p)
		}
	}
	if fitting < 1000 || others < 1000 {
		t.Errorf("%d parameters fit, %d do not", fitting, others)
	}
}

// TestP75Ends: by the least Q that fits, the greatest and the least score are not mistaken; by one less they are.
func TestP75Ends(t *testing.T) {
	for _, p := range []api.Params{{K: 1, D: 1, M: 1, X: 1}, {K: 1, D: 2, M: 3, X: 2}, {K: 1, M: 5}, {K: 1, D: 4, M: api.MaxEntry, X: api.MaxEntry}} {
		most := int64(p.D)*p.M*p.X + p.M
		up, down := slices.Repeat([]int64{p.M}, p.D), slices.Repeat([]int64{-p.M}, p.D)
		x := slices.Repeat([]int64{p.X}, p.D)
		high, low := api.Model{W: [][]int64{up}, B: []int64{p.M}}, api.Model{W: [][]int64{down}, B: []int64{-p.M}}
		p.Q = uint64(2*most + 1)
		if fixed.Int(fixed.Dot(p, fixed.Secrets(p, high), x)[0], p.Q) != most || fixed.Int(fixed.Dot(p, fixed.Secrets(p, low), x)[0], p.Q) != -most {
			t.Errorf("by %v the greatest or the least score is another one", p)
		}
		p.Q--
		if fixed.Int(fixed.Dot(p, fixed.Secrets(p, high), x)[0], p.Q) != -most || fixed.Scores(p, high, x)[0] != most {
			t.Errorf("by %v the greatest score is not mistaken for the least one", p)
		}
	}
}

// added returns the sum of two rows of values of any lengths, sometimes with numbers from q on.
func added(a, b []uint64, q uint64) []uint64 {
	sum := make([]uint64, max(len(a), len(b)))
	for i := range sum {
		z := new(big.Int)
		if i < len(a) {
			z.Add(z, bigOf(a[i]))
		}
		if i < len(b) {
			z.Add(z, bigOf(b[i]))
		}
		sum[i] = numberOf(z, q)
	}
	return sum
}

func times(a []uint64, factor, q uint64) []uint64 {
	multiple := make([]uint64, len(a))
	for i, x := range a {
		multiple[i] = numberOf(new(big.Int).Mul(bigOf(x), bigOf(factor)), q)
	}
	return multiple
}

func TestP76Linear(t *testing.T) {
	visitAny(76, 300, func(r *rand.Rand, p api.Params) {
		long := p.K*(p.D+1) + 2
		a, b := anyNumbers(r, r.Intn(long+1), p.Q), anyNumbers(r, r.Intn(long+1), p.Q)
		x, factor := anyIntegers(r, r.Intn(p.D+3), 1<<61), anyNumber(r, p.Q)
		first, second := fixed.Dot(p, a, x), fixed.Dot(p, b, x)
		if got := fixed.Dot(p, added(a, b, p.Q), x); !slices.Equal(got, added(first, second, p.Q)) {
			t.Fatalf("by %v the products of the sum of %v and %v and %v are %v", p, a, b, x, got)
		}
		if got := fixed.Dot(p, times(a, factor, p.Q), x); !slices.Equal(got, times(first, factor, p.Q)) {
			t.Fatalf("by %v the products of %d times %v and %v are %v", p, factor, a, x, got)
		}
	})
}

// TestP77All: all pairs of small models, all pairs and threes of queries, integer combinations of these.
func TestP77All(t *testing.T) {
	p := api.Params{Q: 101, K: 1, D: 2, M: 1, X: 1}
	var models []api.Model
	var queries [][]int64
	for a := int64(-1); a <= 1; a++ {
		for b := int64(-1); b <= 1; b++ {
			queries = append(queries, []int64{a, b})
			for c := int64(-1); c <= 1; c++ {
				models = append(models, api.Model{W: [][]int64{{a, b}}, B: []int64{c}})
			}
		}
	}
	agreed := 0
	for _, a := range models {
		for _, b := range models {
			agree := func(x []int64) bool { return slices.Equal(fixed.Scores(p, a, x), fixed.Scores(p, b, x)) }
			for _, x := range queries {
				for _, y := range queries {
					if !agree(x) || !agree(y) {
						continue
					}
					for c := int64(-3); c <= 3; c++ {
						z := []int64{c*x[0] + (1-c)*y[0], c*x[1] + (1-c)*y[1]}
						if fixed.Query(p, z) != api.OK {
							continue
						}
						if !agree(z) {
							t.Fatalf("%v and %v agree on %v and %v, not on %v", a, b, x, y, z)
						}
						agreed++
					}
				}
			}
		}
	}
	if agreed < 1000 {
		t.Error("few combinations:", agreed)
	}
}

// TestP77Great: models that agree on two queries, by construction, agree on their combinations, and elsewhere they do not.
func TestP77Great(t *testing.T) {
	r := rand.New(rand.NewSource(77))
	for _, q := range moduli {
		for range 200 {
			p := api.Params{Q: q, K: 1 + r.Intn(2), D: 2 + r.Intn(3), M: api.MaxEntry, X: 1 << 12}
			x, y := anyIntegers(r, p.D, 1<<8), anyIntegers(r, p.D, 1<<8)
			a := anyModel(r, api.Params{K: p.K, D: p.D, M: 1 << 18})
			b := cloned(a)
			for k := range p.K {
				// What is added is orthogonal to the difference of the queries, and its bias undoes it.
				u, v := y[1]-x[1], x[0]-y[0]
				b.W[k][0] += u
				b.W[k][1] += v
				b.B[k] -= u*x[0] + v*x[1]
			}
			if !slices.Equal(fixed.Scores(p, a, x), fixed.Scores(p, b, x)) || !slices.Equal(fixed.Scores(p, a, y), fixed.Scores(p, b, y)) {
				t.Fatalf("by %v %v and %v do not agree on %v and %v", p, a, b, x, y)
			}
			c, z, off := int64(r.Intn(9)-4), make([]int64, p.D), make([]int64, p.D)
			for i := range z {
				z[i] = c*x[i] + (1-c)*y[i]
			}
			copy(off, z)
			off[0]++
			scores := fixed.Scores(p, a, z)
			if len(scores) != p.K || !slices.Equal(scores, fixed.Scores(p, b, z)) {
				t.Fatalf("by %v %v and %v do not agree on %v", p, a, b, z)
			}
			if b.W[0][0] != a.W[0][0] && slices.Equal(fixed.Scores(p, a, off), fixed.Scores(p, b, off)) {
				t.Fatalf("by %v %v and %v agree on %v", p, a, b, off)
			}
		}
	}
}

// kept returns what a list and the memory behind it hold.
func kept[T any](l []T) []T { return slices.Clone(l[:cap(l)]) }

// spare returns a list with memory behind its end, which is not 0.
func spare[T any](l []T, behind T) []T { return append(slices.Clone(l), behind, behind)[:len(l)] }

// TestR1Unchanged: nothing that is handed in is changed, also not behind its end, and writing into an answer changes nothing else.
func TestR1Unchanged(t *testing.T) {
	visitAny(1, 60, func(r *rand.Rand, p api.Params) {
		p.K, p.D = max(p.K, 1), max(p.D, 1)
		m := anyModel(r, p)
		for k := range m.W {
			m.W[k] = spare(m.W[k], 77)
		}
		m.W, m.B = spare(m.W, []int64{78}), spare(m.B, 79)
		x, l := spare(anyIntegers(r, p.D, p.X), 80), spare(anyNumbers(r, p.K*(p.D+1), p.Q), 81)
		rows, biases, entries, values := kept(m.W), kept(m.B), kept(x), kept(l)
		for k := range rows {
			rows[k] = kept(rows[k])
		}
		answers := func() ([][]uint64, []int64) {
			fixed.May(p, m)
			fixed.Query(p, x)
			fixed.Same(m, m)
			return [][]uint64{fixed.Secrets(p, m), fixed.Row(p, x), fixed.Dot(p, l, x)}, fixed.Scores(p, m, x)
		}
		lists, scores := answers()
		again, repeated := answers()
		for _, list := range lists {
			full := list[:cap(list)]
			for i := range full {
				full[i] += 7
			}
		}
		for i := range scores[:cap(scores)] {
			scores[:cap(scores)][i] += 7
		}
		last, final := answers()
		if !slices.EqualFunc(again, last, slices.Equal[[]uint64]) || !slices.Equal(repeated, final) {
			t.Fatalf("by %v answers change with answers", p)
		}
		for k, row := range m.W[:cap(m.W)] {
			if !slices.Equal(kept(row), rows[k]) {
				t.Fatalf("by %v the row %d is %v", p, k, row)
			}
		}
		if !slices.Equal(kept(m.B), biases) || !slices.Equal(kept(x), entries) || !slices.Equal(kept(l), values) {
			t.Fatalf("by %v what was handed in is changed", p)
		}
	})
}

// TestR1Empty: a list that is nil and one that is empty are the same.
func TestR1Empty(t *testing.T) {
	for _, p := range []api.Params{{Q: 11}, {Q: 11, K: 1}, {Q: 11, D: 1}, {Q: 11, K: 2, D: 2}, {Q: 11, K: 2, M: 1, X: 1}} {
		models := []api.Model{{}, {W: [][]int64{}, B: []int64{}}, {W: make([][]int64, 0, 3)}}
		for _, m := range models {
			if !fixed.Same(m, models[0]) || fixed.May(p, m) != fixed.May(p, models[0]) || fixed.May(p, m) != (p.K == 0) {
				t.Errorf("by %v a model without rows: %t", p, fixed.May(p, m))
			}
		}
		for _, x := range [][]int64{nil, {}, make([]int64, 0, 3)} {
			if fixed.Query(p, x) != fixed.Query(p, nil) || !slices.Equal(fixed.Row(p, x), fixed.Row(p, nil)) {
				t.Errorf("by %v a query without entries", p)
			}
			for _, l := range [][]uint64{nil, {}, make([]uint64, 0, 9)} {
				if !slices.Equal(fixed.Dot(p, l, x), make([]uint64, p.K)) {
					t.Errorf("by %v products of nothing", p)
				}
			}
		}
		rows := []api.Model{{W: [][]int64{nil, nil}, B: []int64{0, 0}}, {W: [][]int64{{}, {}}, B: []int64{0, 0}}}
		if !fixed.Same(rows[0], rows[1]) || fixed.May(p, rows[0]) != fixed.May(p, rows[1]) || !slices.Equal(fixed.Secrets(p, rows[0]), fixed.Secrets(p, rows[1])) {
			t.Errorf("by %v rows that are nil and empty", p)
		}
	}
}
