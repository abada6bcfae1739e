package group_test

import (
	"math"
	"math/big"
	"math/rand"
	"slices"
	"testing"

	"consistory/api"
	"consistory/group"
)

const mersenne = 1<<61 - 1 // the greatest prime up to MaxP

// small are the parameters of the chapter's examples.
var small = api.Params{P: 23, Q: 11, G: 4, H: 9, Nodes: 4, N: 4, T: 1, K: 1, D: 1, R: 1, M: 1, X: 1}

// great are parameters with all maxima, and nearly the greatest primes: P is 2 Q + 1.
var great = api.Params{P: 2305843009213691579, Q: 1152921504606845789, G: 4, H: 9, Nodes: 8, N: 7, T: 2, K: 2, D: 4, R: 4, M: api.MaxEntry, X: api.MaxEntry}

// thin are parameters with the greatest P, and a small Q.
var thin = api.Params{P: mersenne, Q: 1321, G: bigPow(3, (mersenne-1)/1321, mersenne), H: bigPow(37, (mersenne-1)/1321, mersenne), Nodes: 5, N: 4, T: 1, K: 2, D: 4, R: 2, M: 10, X: 10}

// tight are the maxima with nearly the least Q that allows them.
var tight = api.Params{P: 633318848594569, Q: 8796095119369, G: bigPow(2, 72, 633318848594569), H: bigPow(7, 72, 633318848594569), Nodes: 8, N: 7, T: 2, K: 2, D: 4, R: 4, M: api.MaxEntry, X: api.MaxEntry}

// five and seven are parameters with nearly as many members as elements.
var five = api.Params{P: 11, Q: 5, G: 4, H: 9, Nodes: 4, N: 4, T: 1, K: 1, D: 1, R: 1, M: 1, X: 1}
var seven = api.Params{P: 29, Q: 7, G: 16, H: 23, Nodes: 6, N: 6, T: 1, K: 1, D: 1, R: 1, M: 1, X: 2}

// wrongP are no moduli: 0, and numbers above MaxP, some of them primes.
var wrongP = []uint64{0, api.MaxP + 1, api.MaxP + 15, 2305843009213699919, 1 << 62, 1 << 63, 1<<64 - 59, 1<<64 - 1}

func bigOf(x uint64) *big.Int { return new(big.Int).SetUint64(x) }

func bigPow(x, e, m uint64) uint64 { return new(big.Int).Exp(bigOf(x), bigOf(e), bigOf(m)).Uint64() }

func bigMul(x, y, m uint64) uint64 {
	z := new(big.Int).Mul(bigOf(x), bigOf(y))
	return z.Mod(z, bigOf(m)).Uint64()
}

func bigAdd(x, y, m uint64) uint64 {
	z := new(big.Int).Add(bigOf(x), bigOf(y))
	return z.Mod(z, bigOf(m)).Uint64()
}

func bigSub(x, y, m uint64) uint64 {
	z := new(big.Int).Sub(bigOf(x), bigOf(y))
	return z.Mod(z, bigOf(m)).Uint64()
}

func with(p api.Params, change func(p *api.Params)) api.Params {
	change(&p)
	return p
}

// order returns the least exponent from 1 on by which x is 1 modulo m, or 0 if there is none up to m.
func order(x, m uint64) uint64 {
	if m > 10000 {
		return 0
	}
	power := 1 % m
	for e := uint64(1); e <= m; e++ {
		if power = power * x % m; power == 1 {
			return e
		}
	}
	return 0
}

// hasOrder reports whether x is from 1 to P - 1 and has the order Q, which is a prime if P is great.
func hasOrder(p api.Params, x uint64) bool {
	if x == 0 || x >= p.P {
		return false
	}
	if p.P <= 10000 {
		return order(x, p.P) == p.Q
	}
	return x != 1 && p.Q > 1 && bigPow(x, p.Q, p.P) == 1
}

// primes keeps what isPrime has found out: the same few numbers are asked for again and again.
var primes = map[uint64]bool{}

// isPrime: below 2^64 ProbablyPrime has no exception.
func isPrime(x uint64) bool {
	is, known := primes[x]
	if !known {
		is = bigOf(x).ProbablyPrime(0)
		primes[x] = is
	}
	return is
}

// broken returns the names of all conditions on parameters that do not hold, as DOC.md has them.
func broken(p api.Params) []string {
	l := []string{}
	check := func(name string, holds bool) {
		if !holds {
			l = append(l, name)
		}
	}
	within := func(x, least, greatest *big.Int) bool { return x.Cmp(least) >= 0 && x.Cmp(greatest) <= 0 }
	i := big.NewInt
	n := func(x int) *big.Int { return i(int64(x)) }
	check("P is a prime", isPrime(p.P))
	check("P is at most MaxP", p.P <= api.MaxP)
	check("Q is a prime", isPrime(p.Q))
	check("Q divides P - 1", p.P > 0 && p.Q > 0 && (p.P-1)%p.Q == 0)
	check("G has the order Q", hasOrder(p, p.G))
	check("H has the order Q", hasOrder(p, p.H))
	check("T", within(n(p.T), i(1), i(api.MaxT)))
	least := new(big.Int).Mul(n(p.T), i(3))
	check("N", within(n(p.N), least.Add(least, i(1)), i(api.MaxN)))
	check("N is below Q", n(p.N).Cmp(bigOf(p.Q)) < 0)
	check("Nodes", within(n(p.Nodes), n(p.N), i(api.MaxNodes)))
	check("K", within(n(p.K), i(1), i(api.MaxK)))
	check("D", within(n(p.D), i(1), i(api.MaxD)))
	check("R", within(n(p.R), i(1), n(p.D)))
	check("M", within(i(p.M), i(1), i(api.MaxEntry)))
	check("X", within(i(p.X), i(1), i(api.MaxEntry)))
	scores := new(big.Int).Mul(n(p.D), i(p.M))
	scores.Mul(scores, i(p.X)).Add(scores, i(p.M)).Mul(scores, i(2))
	check("scores are below Q", scores.Cmp(bigOf(p.Q)) < 0)
	return l
}

func TestExamples(t *testing.T) {
	if !group.May(small) {
		t.Error("the parameters are valid")
	}
	for name, p := range map[string]api.Params{
		"G 5": with(small, func(p *api.Params) { p.G = 5 }),
		"N 3": with(small, func(p *api.Params) { p.N = 3 }),
		"M 3": with(small, func(p *api.Params) { p.M = 3 }),
	} {
		if group.May(p) {
			t.Errorf("with %s the parameters are not valid", name)
		}
	}
	for x, want := range map[uint64]bool{2: true, 5: false, 0: false, 24: false} {
		if group.Is(small, x) != want {
			t.Errorf("Is of %d: %v", x, !want)
		}
	}
	for _, x := range []struct {
		name      string
		got, want uint64
	}{
		{"Times of 4, 9", group.Times(small, 4, 9), 13},
		{"Power of 4 by 3", group.Power(small, 4, 3), 18},
		{"Commit of (1, 1)", group.Commit(small, api.Pair{S: 1, B: 1}), 13},
		{"At of 4, 9 at 2", group.At(small, []uint64{4, 9}, 2), 2},
	} {
		if x.got != x.want {
			t.Errorf("%s: %d, want %d", x.name, x.got, x.want)
		}
	}
}

func TestP21ValidAtTheLimits(t *testing.T) {
	for name, p := range map[string]api.Params{
		"all maxima":                great,
		"all maxima, a small Q":     tight,
		"the greatest P":            thin,
		"N is Q - 1, 4":             five,
		"N is Q - 1, 6":             seven,
		"H is G":                    with(small, func(p *api.Params) { p.H = p.G }),
		"N is 3 T + 1, and MaxN":    with(small, func(p *api.Params) { p.T, p.N, p.Nodes = 2, 7, 7 }),
		"N is MaxN, T 1":            with(small, func(p *api.Params) { p.N, p.Nodes = 7, 7 }),
		"Nodes is MaxNodes":         with(small, func(p *api.Params) { p.Nodes = 8 }),
		"K is MaxK":                 with(small, func(p *api.Params) { p.K = 2 }),
		"scores to Q - 1: D":        with(small, func(p *api.Params) { p.D = 4 }),
		"scores to Q - 1: X":        with(small, func(p *api.Params) { p.X = 4 }),
		"scores to Q - 1: D and X":  with(small, func(p *api.Params) { p.D, p.X = 2, 2 }),
		"scores near Q: M":          with(small, func(p *api.Params) { p.M = 2 }),
		"R is D":                    with(small, func(p *api.Params) { p.D, p.R = 4, 4 }),
		"all minima with a great Q": with(great, func(p *api.Params) { p.Nodes, p.N, p.T, p.K, p.D, p.R, p.M, p.X = 4, 4, 1, 1, 1, 1, 1, 1 }),
	} {
		if l := broken(p); len(l) > 0 {
			t.Fatalf("%s: the test is wrong: %v", name, l)
		}
		if !group.May(p) {
			t.Errorf("%s: the parameters are valid", name)
		}
	}
}

func TestP21EachConditionBroken(t *testing.T) {
	for name, p := range map[string]api.Params{
		"P is 0":                   with(small, func(p *api.Params) { p.P = 0 }),
		"P is 1":                   with(small, func(p *api.Params) { p.P = 1 }),
		"P is 11 times 31":         with(five, func(p *api.Params) { p.P, p.G, p.H = 341, 4, 16 }),
		"P is a prime above MaxP":  with(great, func(p *api.Params) { p.P, p.Q = 2305843009213699919, 1152921504606849959 }),
		"Q is 0":                   with(small, func(p *api.Params) { p.Q = 0 }),
		"Q is 1":                   with(small, func(p *api.Params) { p.Q = 1 }),
		"Q is 22, G and H as well": with(small, func(p *api.Params) { p.Q, p.G, p.H = 22, 5, 7 }),
		"Q does not divide P - 1":  with(small, func(p *api.Params) { p.Q = 7 }),
		"Q is above MaxP":          with(great, func(p *api.Params) { p.Q = 2305843009213699919 }),
		"Q is the greatest number": with(small, func(p *api.Params) { p.Q = 1<<64 - 1 }),
		"G is 0":                   with(small, func(p *api.Params) { p.G = 0 }),
		"G is 1":                   with(small, func(p *api.Params) { p.G = 1 }),
		"G has the order 2":        with(small, func(p *api.Params) { p.G = 22 }),
		"G is P":                   with(small, func(p *api.Params) { p.G = 23 }),
		"G is above P":             with(small, func(p *api.Params) { p.G = 23 + 4 }),
		"H is 0":                   with(small, func(p *api.Params) { p.H = 0 }),
		"H is 1":                   with(small, func(p *api.Params) { p.H = 1 }),
		"H has the order 22":       with(small, func(p *api.Params) { p.H = 5 }),
		"H is P":                   with(small, func(p *api.Params) { p.H = 23 }),
		"H is above P":             with(small, func(p *api.Params) { p.H = 23 + 9 }),
		"T is 0":                   with(small, func(p *api.Params) { p.T = 0 }),
		"T is 0, N 1":              with(small, func(p *api.Params) { p.T, p.N = 0, 1 }),
		"T is -1":                  with(small, func(p *api.Params) { p.T = -1 }),
		"T is MaxT + 1":            with(great, func(p *api.Params) { p.T = 3 }),
		"3 T wraps around":         with(great, func(p *api.Params) { p.T = math.MaxInt/3 + 1 }),
		"N is 3 T, 3":              with(small, func(p *api.Params) { p.N = 3 }),
		"N is 3 T, 6":              with(great, func(p *api.Params) { p.N = 6 }),
		"N is MaxN + 1":            with(great, func(p *api.Params) { p.N = 8 }),
		"N is Q, 5":                with(five, func(p *api.Params) { p.N, p.Nodes = 5, 5 }),
		"N is Q, 7":                with(seven, func(p *api.Params) { p.N, p.Nodes = 7, 7 }),
		"N is Q + 1":               with(five, func(p *api.Params) { p.N, p.Nodes = 6, 6 }),
		"N is -4":                  with(small, func(p *api.Params) { p.N = -4 }),
		"Nodes is N - 1":           with(small, func(p *api.Params) { p.Nodes = 3 }),
		"Nodes is MaxNodes + 1":    with(great, func(p *api.Params) { p.Nodes = 9 }),
		"K is 0":                   with(small, func(p *api.Params) { p.K = 0 }),
		"K is MaxK + 1":            with(great, func(p *api.Params) { p.K = 3 }),
		"D is 0":                   with(small, func(p *api.Params) { p.D = 0 }),
		"D is 0, R as well":        with(small, func(p *api.Params) { p.D, p.R = 0, 0 }),
		"D is MaxD + 1":            with(great, func(p *api.Params) { p.D = 5 }),
		"R is 0":                   with(small, func(p *api.Params) { p.R = 0 }),
		"R is D + 1, 2":            with(small, func(p *api.Params) { p.R = 2 }),
		"R is D + 1, 5":            with(great, func(p *api.Params) { p.R = 5 }),
		"M is 0":                   with(small, func(p *api.Params) { p.M = 0 }),
		"M is -1":                  with(small, func(p *api.Params) { p.M = -1 }),
		"M is MaxEntry + 1":        with(great, func(p *api.Params) { p.M = api.MaxEntry + 1 }),
		"X is 0":                   with(small, func(p *api.Params) { p.X = 0 }),
		"X is -1":                  with(small, func(p *api.Params) { p.X = -1 }),
		"X is MaxEntry + 1":        with(great, func(p *api.Params) { p.X = api.MaxEntry + 1 }),
		"2 D M X wraps around":     with(great, func(p *api.Params) { p.M, p.X = 1<<31, 1<<30 }),
		"scores to Q + 1: X":       with(small, func(p *api.Params) { p.X = 5 }),
		"scores to Q + 1: D":       with(small, func(p *api.Params) { p.D, p.M = 2, 2 }),
		"scores to Q + 1: the 2":   with(seven, func(p *api.Params) { p.X = 3 }),
		"scores above a great Q":   with(tight, func(p *api.Params) { p.P, p.Q, p.G, p.H = lessTight() }),
		"zero parameters":          {},
	} {
		if len(broken(p)) == 0 {
			t.Fatalf("%s: the test is wrong", name)
		}
		if group.May(p) {
			t.Errorf("%s: the parameters are not valid", name)
		}
	}
}

// lessTight returns a group whose Q is just below what the maxima ask for.
func lessTight() (p, q, g, h uint64) {
	p, q = 351843804772841, 8796095119321
	return p, q, bigPow(2, (p-1)/q, p), bigPow(3, (p-1)/q, p)
}

// changes returns, for each field of parameters, changes to its edges and beyond.
func changes() [][]func(p *api.Params) {
	numbers := []uint64{0, 1, 2, 4, 5, 7, 9, 11, 16, 22, 23, 27, 29, 341, 1321, 8796095119369, 1152921504606845789, 2305843009213691579, mersenne, 2305843009213699919, 1<<64 - 1}
	integers := []int{math.MinInt, -1, 0, 1, 2, 3, 4, 5, 6, 7, 8, 9, math.MaxInt/3 + 1, math.MaxInt}
	entries := []int64{math.MinInt64, -1, 0, 1, 2, 3, 4, 5, api.MaxEntry, api.MaxEntry + 1, 1 << 62, math.MaxInt64}
	var fields [][]func(p *api.Params)
	for _, field := range []func(p *api.Params) *uint64{
		func(p *api.Params) *uint64 { return &p.P }, func(p *api.Params) *uint64 { return &p.Q },
		func(p *api.Params) *uint64 { return &p.G }, func(p *api.Params) *uint64 { return &p.H },
	} {
		fields = append(fields, changesOf(field, numbers))
	}
	for _, field := range []func(p *api.Params) *int{
		func(p *api.Params) *int { return &p.Nodes }, func(p *api.Params) *int { return &p.N }, func(p *api.Params) *int { return &p.T },
		func(p *api.Params) *int { return &p.K }, func(p *api.Params) *int { return &p.D }, func(p *api.Params) *int { return &p.R },
	} {
		fields = append(fields, changesOf(field, integers))
	}
	for _, field := range []func(p *api.Params) *int64{
		func(p *api.Params) *int64 { return &p.M }, func(p *api.Params) *int64 { return &p.X },
	} {
		fields = append(fields, changesOf(field, entries))
	}
	return fields
}

func changesOf[V any](field func(p *api.Params) *V, values []V) []func(p *api.Params) {
	var l []func(p *api.Params)
	for _, v := range values {
		l = append(l, func(p *api.Params) { *field(p) = v })
	}
	return l
}

// TestP21AnyTwoFields changes any one or two fields of some parameters, and sees to it that each condition is broken by itself.
func TestP21AnyTwoFields(t *testing.T) {
	alone := map[string]int{}
	valid := 0
	check := func(p api.Params) {
		l := broken(p)
		if group.May(p) != (len(l) == 0) {
			t.Fatalf("May(%+v): %v, but broken: %q", p, len(l) > 0, l)
		}
		if len(l) == 0 {
			valid++
		}
		if len(l) == 1 {
			alone[l[0]]++
		}
	}
	composite := with(five, func(p *api.Params) { p.P, p.G, p.H = 341, 4, 16 })
	above := with(great, func(p *api.Params) { p.P, p.Q = 2305843009213699919, 1152921504606849959 })
	of22 := with(small, func(p *api.Params) { p.Q, p.G, p.H = 22, 5, 7 })
	fields := changes()
	for _, base := range []api.Params{small, great, thin, tight, five, seven, composite, above, of22} {
		for i, first := range fields {
			for _, change := range first {
				p := with(base, change)
				check(p)
				for _, second := range fields[i+1:] {
					for _, change := range second {
						check(with(p, change))
					}
				}
			}
		}
	}
	for _, name := range []string{"P is a prime", "P is at most MaxP", "Q is a prime", "G has the order Q", "H has the order Q", "T", "N", "N is below Q", "Nodes", "K", "D", "R", "M", "X", "scores are below Q"} {
		if alone[name] == 0 {
			t.Errorf("never broken by itself: %s", name)
		}
	}
	if valid < 100 {
		t.Errorf("only %d are valid", valid)
	}
}

// TestP21SmallGroups goes through all groups, and pairs of generators, in small numbers.
func TestP21SmallGroups(t *testing.T) {
	for p := uint64(0); p <= 31; p++ {
		for q := uint64(0); q <= p; q++ {
			for g := uint64(0); g <= p+1; g++ {
				for h := uint64(0); h <= p+1; h++ {
					x := with(small, func(x *api.Params) { x.P, x.Q, x.G, x.H = p, q, g, h })
					want := q > 4 && isPrime(p) && isPrime(q) && (p-1)%q == 0 && g < p && h < p && order(g, p) == q && order(h, p) == q
					if group.May(x) != want {
						t.Fatalf("May with P %d, Q %d, G %d, H %d: %v", p, q, g, h, !want)
					}
				}
			}
		}
	}
}

func TestP21Is(t *testing.T) {
	for p := uint64(0); p <= 60; p++ {
		for q := uint64(0); q <= 60; q++ {
			for x := uint64(0); x <= 2*p+2; x++ {
				want := x >= 1 && x < p && bigPow(x, q, p) == 1
				if group.Is(api.Params{P: p, Q: q}, x) != want {
					t.Fatalf("Is(P %d, Q %d, %d): %v", p, q, x, !want)
				}
			}
		}
	}
	for _, p := range []api.Params{small, great, thin, tight} {
		for _, x := range []uint64{1, p.G, p.H} {
			if !group.Is(p, x) || group.Is(p, p.P+x) || group.Is(p, p.P-x) && p.P == 2*p.Q+1 {
				t.Errorf("P %d: %d is in the group, P more is not", p.P, x)
			}
		}
		for _, x := range []uint64{0, p.P - 1, p.P, p.P + 1, 2*p.P + 1, 1<<64 - 1} {
			if group.Is(p, x) {
				t.Errorf("P %d: %d is not in the group", p.P, x)
			}
		}
	}
}

func TestP21IsOfWrongParameters(t *testing.T) {
	for _, p := range wrongP {
		for _, q := range []uint64{0, 1, 2, 11, 1152921504606849959, p - 1, 1<<64 - 1} {
			for _, x := range []uint64{0, 1, 4, p - 1, p, 1<<64 - 1} {
				if group.Is(api.Params{P: p, Q: q, G: 4, H: 9}, x) {
					t.Errorf("Is(P %d, Q %d, %d)", p, q, x)
				}
			}
		}
	}
	// A number's power by 0 is 1, and Q is an exponent like any other.
	if p := (api.Params{P: 24}); !group.Is(p, 1) || !group.Is(p, 6) || !group.Is(p, 23) || group.Is(p, 24) || group.Is(p, 0) {
		t.Error("with Q 0 all numbers from 1 to P - 1 are in the group")
	}
	if p := (api.Params{P: 23, Q: 1 << 63}); group.Is(p, 2) || !group.Is(p, 22) {
		t.Error("with a Q above MaxP")
	}
	if p := (api.Params{P: 1, Q: 1}); group.Is(p, 0) || group.Is(p, 1) {
		t.Error("with P 1 no number is in the group")
	}
}

// anyParams returns valid and invalid parameters with a P that is a modulus.
func anyParams() []api.Params {
	return []api.Params{
		small, great, thin, tight, five, seven,
		{P: 1, Q: 1, G: 1, H: 1}, {P: 2, Q: 1, G: 1, H: 3}, {P: 24, Q: 12, G: 6, H: 5}, {P: 23, Q: 22, G: 5, H: 7},
		{P: 23, G: 4, H: 9}, {P: 23, Q: 1, G: 4, H: 9}, {P: 23, Q: api.MaxP, G: 4, H: 9}, {P: 23, Q: api.MaxP + 1, G: 4, H: 9}, {P: 23, Q: 1<<64 - 1, G: 4, H: 9},
		{P: 23, Q: 11, G: 0, H: 23}, {P: 23, Q: 11, G: 27, H: 1<<64 - 1}, {P: api.MaxP, Q: api.MaxP - 1, G: 3, H: api.MaxP - 2},
	}
}

// numbersFor returns numbers at the edges of the parameters, and some others, the same in each run.
func numbersFor(p api.Params) []uint64 {
	l := []uint64{0, 1, 2, 3, p.Q - 1, p.Q, p.Q + 1, 2 * p.Q, p.P - 1, p.P, p.P + 1, p.G, p.H, api.MaxP, api.MaxP + 1, 1 << 63, 1<<64 - 1}
	r := rand.New(rand.NewSource(int64(p.P)))
	for range 4 {
		l = append(l, r.Uint64(), r.Uint64()%p.P)
	}
	return l
}

func TestP22Power(t *testing.T) {
	for _, p := range anyParams() {
		for _, x := range numbersFor(p) {
			for _, e := range numbersFor(p) {
				if got, want := group.Power(p, x, e), bigPow(x, e, p.P); got != want {
					t.Fatalf("P %d: Power of %d by %d: %d, want %d", p.P, x, e, got, want)
				}
				// Exponents are not reduced: in parameters that are not valid this makes a difference.
				want := bigMul(bigPow(p.G, x, p.P), bigPow(p.H, e, p.P), p.P)
				if got := group.Commit(p, api.Pair{S: x, B: e}); got != want {
					t.Fatalf("P %d: Commit of %d, %d: %d, want %d", p.P, x, e, got, want)
				}
			}
			if got := group.Power(p, x, 0); got != 1%p.P {
				t.Fatalf("P %d: Power of %d by 0: %d", p.P, x, got)
			}
		}
	}
	if got := group.Commit(small, api.Pair{S: 1, B: 2}); got != 2 {
		t.Errorf("Commit of (1, 2): %d, want 2 (4 times 81)", got)
	}
	if got := group.Commit(small, api.Pair{S: 2, B: 1}); got != 6 {
		t.Errorf("Commit of (2, 1): %d, want 6 (16 times 9)", got)
	}
	if got := group.Commit(small, api.Pair{}); got != 1 {
		t.Errorf("Commit of (0, 0): %d", got)
	}
}

func TestP22Times(t *testing.T) {
	for _, p := range anyParams() {
		if got := group.Times(p); got != 1%p.P {
			t.Errorf("P %d: without numbers: %d", p.P, got)
		}
		var l []uint64
		want := 1 % p.P
		for _, x := range numbersFor(p)[1:] {
			if got := group.Times(p, x); got != x%p.P {
				t.Fatalf("P %d: of %d: %d", p.P, x, got)
			}
			l, want = append(l, x), bigMul(want, x, p.P)
			if got := group.Times(p, l...); got != want {
				t.Fatalf("P %d: of %d: %d, want %d", p.P, l, got, want)
			}
		}
		if got := group.Times(p, append(l, 0)...); got != 0 {
			t.Errorf("P %d: with a 0: %d", p.P, got)
		}
		if group.Times(p, nil...) != group.Times(p, []uint64{}...) {
			t.Errorf("P %d: nil is an empty list", p.P)
		}
	}
}

// valueAt is At with the powers of i from one product to the next.
func valueAt(p api.Params, l []uint64, i uint64) uint64 {
	exponent, field := uint64(0), p.Q > 0 && p.Q <= api.MaxP
	if field {
		exponent = 1 % p.Q
	}
	value := 1 % p.P
	for _, x := range l {
		value = bigMul(value, bigPow(x, exponent, p.P), p.P)
		if field {
			exponent = bigMul(exponent, i, p.Q)
		}
	}
	return value
}

func TestP22At(t *testing.T) {
	for _, p := range anyParams() {
		r := rand.New(rand.NewSource(22))
		numbers := numbersFor(p)
		for _, i := range numbers {
			for n := range 20 {
				l := make([]uint64, n)
				for j := range l {
					l[j] = numbers[r.Intn(len(numbers))]
				}
				if got, want := group.At(p, l, i), valueAt(p, l, i); got != want {
					t.Fatalf("P %d, Q %d: At of %d at %d: %d, want %d", p.P, p.Q, l, i, got, want)
				}
			}
			if group.At(p, nil, i) != 1%p.P || group.At(p, []uint64{}, i) != 1%p.P {
				t.Errorf("P %d: At of no number is not 1", p.P)
			}
		}
	}
	if got := group.At(great, slices.Repeat([]uint64{4}, 3000), 1); got != bigPow(4, 3000, great.P) {
		t.Errorf("At of 3000 numbers: %d", got)
	}
}

func TestP22AtTheEdges(t *testing.T) {
	l := []uint64{4, 9, 3}
	for _, x := range []struct {
		name string
		q, i uint64
		want uint64
	}{
		{"i 0", 11, 0, 4},
		{"i Q", 11, 11, 4},
		{"i above Q", 11, 11 + 1, 4 * 9 * 3 % 23},
		{"i 1", 11, 1, 4 * 9 * 3 % 23},
		{"i 2", 11, 2, 4 * 9 * 9 * 81 % 23},
		{"i 10: its square is 1", 11, 10, 4 * bigPow(9, 10, 23) * 3 % 23},
		{"Q 0: all exponents are 0", 0, 2, 1},
		{"Q 1: all exponents are 0", 1, 2, 1},
		{"Q above MaxP: all exponents are 0", api.MaxP + 1, 2, 1},
		{"Q MaxP", api.MaxP, 2, 4 * 9 * 9 * 81 % 23},
	} {
		if got := group.At(with(small, func(p *api.Params) { p.Q = x.q }), l, x.i); got != x.want {
			t.Errorf("%s: %d, want %d", x.name, got, x.want)
		}
	}
	if got := group.At(small, []uint64{30}, 5); got != 7 {
		t.Errorf("At of one number: %d", got)
	}
	if got := group.At(small, []uint64{0, 9}, 0); got != 0 {
		t.Errorf("At of 0 and 9 at 0: %d", got)
	}
	if got := group.At(small, []uint64{4, 0}, 0); got != 4 {
		t.Errorf("At of 4 and 0 at 0: %d", got)
	}
}

func TestP22WrongP(t *testing.T) {
	for _, modulus := range wrongP {
		for _, q := range []uint64{0, 1, 11, api.MaxP, 1<<64 - 1} {
			p := with(small, func(p *api.Params) { p.P, p.Q = modulus, q })
			for _, x := range []uint64{0, 1, 4, 1<<64 - 1} {
				for name, got := range map[string]uint64{
					"Times":       group.Times(p),
					"Times of":    group.Times(p, x, 1),
					"Power":       group.Power(p, x, 3),
					"Power by 0":  group.Power(p, x, 0),
					"Commit":      group.Commit(p, api.Pair{S: x, B: 1}),
					"Commit of 0": group.Commit(p, api.Pair{}),
					"At":          group.At(p, []uint64{x, 9}, 2),
					"At of none":  group.At(p, nil, x),
				} {
					if got != 0 {
						t.Errorf("P %d, Q %d: %s: %d, want 0", modulus, q, name, got)
					}
				}
			}
		}
	}
}

func TestArgumentsAreNotModified(t *testing.T) {
	l := []uint64{30, 1<<64 - 1, 0, 23, 4, 9}
	kept := slices.Clone(l)
	for range 2 {
		group.Times(small, l[:3]...)
		group.At(small, l[:3], 40)
		if !slices.Equal(l, kept) {
			t.Fatalf("%d became %d", kept, l)
		}
	}
}

// elements returns the powers of G, from 0 on, by brute force.
func elements(p api.Params) []uint64 {
	l := []uint64{}
	power := uint64(1)
	for range p.Q {
		l = append(l, power)
		power = bigMul(power, p.G, p.P)
	}
	return l
}

func smallGroups() []api.Params {
	of67 := with(small, func(p *api.Params) { p.P, p.G, p.H = 67, bigPow(2, 6, 67), bigPow(5, 6, 67) })
	of79 := with(small, func(p *api.Params) { p.P, p.Q, p.G, p.H = 79, 13, bigPow(3, 6, 79), bigPow(2, 6, 79) })
	same := with(small, func(p *api.Params) { p.H = p.G })
	return []api.Params{small, five, seven, of67, of79, same}
}

func TestP23Closed(t *testing.T) {
	for _, p := range smallGroups() {
		if !group.May(p) {
			t.Fatalf("the test is wrong: %+v", p)
		}
		l := elements(p)
		for x := range 2 * p.P {
			if group.Is(p, x) != slices.Contains(l, x) {
				t.Fatalf("P %d: Is of %d: %v", p.P, x, group.Is(p, x))
			}
		}
		if !group.Is(p, 1) || !group.Is(p, p.G) || !group.Is(p, p.H) {
			t.Fatalf("P %d: 1, G and H are in the group", p.P)
		}
		for _, x := range l {
			for _, y := range l {
				if !group.Is(p, group.Times(p, x, y)) {
					t.Fatalf("P %d: %d times %d is not in the group", p.P, x, y)
				}
			}
			for e := range 3 * p.Q {
				power := group.Power(p, x, e)
				if !group.Is(p, power) || (power == 1) != (x == 1 || e%p.Q == 0) {
					t.Fatalf("P %d: %d by %d: %d", p.P, x, e, power)
				}
			}
		}
	}
}

// someOf returns elements, the same in each run.
func someOf(p api.Params, n int) []uint64 {
	l := []uint64{1, p.G, p.H}
	r := rand.New(rand.NewSource(int64(p.Q)))
	for range n {
		l = append(l, bigPow(p.G, r.Uint64(), p.P))
	}
	return l
}

func TestP23GreatGroups(t *testing.T) {
	for _, p := range []api.Params{great, thin, tight} {
		r := rand.New(rand.NewSource(23))
		for _, x := range someOf(p, 20) {
			for _, y := range someOf(p, 20) {
				if !group.Is(p, x) || !group.Is(p, group.Times(p, x, y)) || !group.Is(p, group.Power(p, x, y)) {
					t.Fatalf("P %d: %d, %d, their product, or the power is not in the group", p.P, x, y)
				}
			}
			for range 20 {
				if e := 1 + r.Uint64()%(p.Q-1); group.Power(p, x, e) == 1 && x != 1 {
					t.Fatalf("P %d: %d by %d is 1", p.P, x, e)
				}
			}
			if group.Power(p, x, p.Q) != 1 || group.Power(p, x, 0) != 1 {
				t.Fatalf("P %d: %d by Q, and by 0, is 1", p.P, x)
			}
			if group.Is(p, p.P-x) {
				t.Fatalf("P %d: %d is not in the group", p.P, p.P-x)
			}
		}
	}
}

func TestP24Exponents(t *testing.T) {
	for _, p := range append(smallGroups(), great, thin, tight) {
		exponents := []uint64{0, 1, 2, 7, p.Q - 1, p.Q, p.Q + 1, 2*p.Q + 3, api.MaxP, 1<<62 + 12345, 1 << 63, 1<<64 - 1}
		for _, x := range someOf(p, 10) {
			for _, e := range exponents {
				if group.Power(p, x, e) != group.Power(p, x, e%p.Q) {
					t.Fatalf("P %d: %d by %d, and by that modulo Q", p.P, x, e)
				}
				for _, f := range exponents {
					sum := bigAdd(e, f, p.Q)
					if group.Times(p, group.Power(p, x, e), group.Power(p, x, f)) != group.Power(p, x, sum) {
						t.Fatalf("P %d: %d by %d, and by %d", p.P, x, e, f)
					}
				}
			}
		}
	}
}

// somePairs returns pairs, the same in each run.
func somePairs(p api.Params, n int) []api.Pair {
	l := []api.Pair{{}, {S: 1}, {B: 1}, {S: p.Q - 1, B: p.Q - 1}, {S: p.Q, B: p.Q + 1}, {S: 1<<64 - 1, B: 1<<64 - 1}}
	r := rand.New(rand.NewSource(int64(p.G)))
	for range n {
		l = append(l, api.Pair{S: r.Uint64(), B: r.Uint64()})
	}
	return l
}

func TestP25Sums(t *testing.T) {
	for _, p := range append(smallGroups(), great, thin, tight) {
		for _, x := range somePairs(p, 8) {
			for _, y := range somePairs(p, 8) {
				sum := api.Pair{S: bigAdd(x.S, y.S, p.Q), B: bigAdd(x.B, y.B, p.Q)}
				if group.Times(p, group.Commit(p, x), group.Commit(p, y)) != group.Commit(p, sum) {
					t.Fatalf("P %d: the commitments to %v and %v", p.P, x, y)
				}
			}
			for _, k := range []uint64{0, 1, 2, 10, p.Q - 1, p.Q, p.Q + 1, 1 << 63, 1<<64 - 1} {
				times := api.Pair{S: bigMul(x.S, k, p.Q), B: bigMul(x.B, k, p.Q)}
				if group.Power(p, group.Commit(p, x), k) != group.Commit(p, times) {
					t.Fatalf("P %d: the commitment to %v by %d", p.P, x, k)
				}
			}
		}
	}
}

// pairAt returns the values of both polynomials at i.
func pairAt(p api.Params, l []api.Pair, i uint64) api.Pair {
	v := api.Pair{}
	for _, x := range slices.Backward(l) {
		v.S = bigAdd(bigMul(v.S, i, p.Q), x.S, p.Q)
		v.B = bigAdd(bigMul(v.B, i, p.Q), x.B, p.Q)
	}
	return v
}

func TestP26Values(t *testing.T) {
	for _, p := range append(smallGroups(), great, thin, tight) {
		for n := range 8 {
			l := somePairs(p, n+4)[4:]
			coms := make([]uint64, len(l))
			for j, x := range l {
				coms[j] = group.Commit(p, x)
			}
			for _, i := range []uint64{0, 1, 2, 3, 7, p.Q - 1, p.Q, p.Q + 1, p.P, 1 << 63, 1<<64 - 1} {
				if got, want := group.At(p, coms, i), group.Commit(p, pairAt(p, l, i)); got != want {
					t.Fatalf("P %d: at %d: %d, want %d", p.P, i, got, want)
				}
			}
		}
	}
}

// reveals returns what two pairs with one commitment reveal.
func reveals(p api.Params, x, y api.Pair) uint64 {
	inverse := new(big.Int).ModInverse(bigOf(bigSub(y.B, x.B, p.Q)), bigOf(p.Q))
	if inverse == nil {
		return p.Q // no number modulo Q
	}
	return bigMul(bigSub(x.S, y.S, p.Q), inverse.Uint64(), p.Q)
}

func TestP27Binding(t *testing.T) {
	for _, p := range smallGroups() {
		same := map[uint64][]api.Pair{}
		for s := range p.Q {
			for b := range p.Q {
				c := group.Commit(p, api.Pair{S: s, B: b})
				same[c] = append(same[c], api.Pair{S: s, B: b})
			}
		}
		for c, l := range same {
			if uint64(len(l)) != p.Q {
				t.Fatalf("P %d: %d pairs have the commitment %d", p.P, len(l), c)
			}
			for i, x := range l {
				for _, y := range l[:i] {
					if w := reveals(p, x, y); w >= p.Q || group.Power(p, p.G, w) != p.H {
						t.Fatalf("P %d: %v and %v reveal %d", p.P, x, y, w)
					}
				}
			}
		}
	}
}

func TestP27GreatGroups(t *testing.T) {
	for _, p := range []api.Params{great, thin, tight} {
		for _, w := range []uint64{1, 2, 1000, p.Q - 1, p.Q / 2} {
			p.H = group.Power(p, p.G, w)
			if !group.May(p) {
				t.Fatalf("P %d: with H, G by %d, the parameters are not valid", p.P, w)
			}
			for _, x := range somePairs(p, 10) {
				x = api.Pair{S: x.S % p.Q, B: x.B % p.Q}
				for d := uint64(1); d < 10; d++ {
					y := api.Pair{S: bigSub(x.S, bigMul(w, d, p.Q), p.Q), B: bigAdd(x.B, d, p.Q)}
					if group.Commit(p, x) != group.Commit(p, y) || reveals(p, x, y) != w {
						t.Fatalf("P %d: %v and %v do not reveal %d", p.P, x, y, w)
					}
					y.S = bigAdd(y.S, 1, p.Q)
					if group.Commit(p, x) == group.Commit(p, y) {
						t.Fatalf("P %d: %v and %v have the same commitment", p.P, x, y)
					}
				}
			}
		}
	}
}
