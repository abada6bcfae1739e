package pedersen_test

import (
	"math"
	"math/big"
	"math/rand"
	"slices"
	"testing"

	"consistory/api"
	"consistory/bivar"
	"consistory/group"
	"consistory/pedersen"
	"consistory/poly"
)

const mersenne = 1<<61 - 1 // the greatest prime up to MaxP

// small are the parameters of the chapter's examples.
var small = api.Params{P: 23, Q: 11, G: 4, H: 9, Nodes: 4, N: 4, T: 1, K: 1, D: 1, R: 1, M: 1, X: 1}

// great are parameters with all maxima, and nearly the greatest primes: P is 2 Q + 1.
var great = api.Params{P: 2305843009213691579, Q: 1152921504606845789, G: 4, H: 9, Nodes: 8, N: 7, T: 2, K: 2, D: 4, R: 4, M: api.MaxEntry, X: api.MaxEntry}

// thin are parameters with the greatest P, and a small Q.
var thin = api.Params{P: mersenne, Q: 1321, G: bigPow(3, (mersenne-1)/1321, mersenne), H: bigPow(37, (mersenne-1)/1321, mersenne), Nodes: 5, N: 4, T: 1, K: 2, D: 3, R: 2, M: 10, X: 10}

// five and seven are parameters with nearly as many members as elements; of seven P - 1 is 4 Q.
var five = api.Params{P: 11, Q: 5, G: 4, H: 9, Nodes: 4, N: 4, T: 1, K: 1, D: 1, R: 1, M: 1, X: 1}
var seven = api.Params{P: 29, Q: 7, G: 16, H: 23, Nodes: 6, N: 6, T: 1, K: 1, D: 1, R: 1, M: 1, X: 2}

// valid are valid parameters with each T and each number of rows.
var valid = []api.Params{small, great, thin, five, seven,
	with(small, func(p *api.Params) { p.T, p.N, p.Nodes = 2, 7, 7 }),
	with(small, func(p *api.Params) { p.K, p.D = 2, 4 }),
	with(five, func(p *api.Params) { p.K, p.H = 2, 4 }), // H is G
	with(thin, func(p *api.Params) { p.T, p.N, p.Nodes, p.K, p.D = 2, 7, 8, 1, 2 }),
	with(great, func(p *api.Params) { p.T, p.N, p.K, p.D, p.R = 1, 5, 1, 1, 1 }),
}

// wrongP are no moduli: 0, and numbers above MaxP, some of them primes.
var wrongP = []uint64{0, api.MaxP + 1, api.MaxP + 15, 2305843009213699919, 1 << 62, 1 << 63, 1<<64 - 59, 1<<64 - 1}

func with(p api.Params, change func(p *api.Params)) api.Params {
	change(&p)
	return p
}

func bigOf(x uint64) *big.Int { return new(big.Int).SetUint64(x) }

func bigPow(x, e, m uint64) uint64 { return new(big.Int).Exp(bigOf(x), bigOf(e), bigOf(m)).Uint64() }

func bigMul(x, y, m uint64) uint64 {
	z := new(big.Int).Mul(bigOf(x), bigOf(y))
	return z.Mod(z, bigOf(m)).Uint64()
}

func isModulus(m uint64) bool { return m > 0 && m <= api.MaxP }

// reduced returns a number modulo P, as all numbers are taken here.
func reduced(p api.Params, x uint64) uint64 {
	if !isModulus(p.P) {
		return 0
	}
	return x % p.P
}

// isIn tells by the definition whether a number is in the group.
func isIn(p api.Params, x uint64) bool {
	return isModulus(p.P) && x > 0 && x < p.P && bigPow(x, p.Q, p.P) == 1
}

// commitmentOf returns the commitment to a pair by the definition.
func commitmentOf(p api.Params, value, blinder uint64) uint64 {
	if !isModulus(p.P) {
		return 0
	}
	return bigMul(bigPow(p.G, value, p.P), bigPow(p.H, blinder, p.P), p.P)
}

// valueOf returns the value of commitments at i by the definition.
func valueOf(p api.Params, l []uint64, i uint64) uint64 {
	value := reduced(p, 1)
	for j, c := range l {
		e := uint64(0)
		if isModulus(p.Q) {
			e = bigPow(i, uint64(j), p.Q)
		}
		if isModulus(p.P) {
			value = bigMul(value, bigPow(c, e, p.P), p.P)
		}
	}
	return value
}

// secretsOf returns how many secrets there are by the definition.
func secretsOf(p api.Params) uint64 {
	n := big.NewInt(int64(p.D))
	n.Add(n, big.NewInt(1)).Mul(n, big.NewInt(int64(p.K)))
	return n.Mod(n, new(big.Int).Lsh(big.NewInt(1), 64)).Uint64()
}

// isNext reports whether a length is T + 1, which may be beyond all integers.
func isNext(p api.Params, length int) bool {
	n := big.NewInt(int64(p.T))
	return n.Add(n, big.NewInt(1)).Cmp(big.NewInt(int64(length))) == 0
}

// fill tells whether each list has T + 1 numbers of the group.
func fill(p api.Params, lists [][]uint64) bool {
	for _, list := range lists {
		if !isNext(p, len(list)) || slices.ContainsFunc(list, func(c uint64) bool { return !isIn(p, c) }) {
			return false
		}
	}
	return true
}

func comsOf(p api.Params, f, r [][]uint64) [][]uint64 {
	coms := make([][]uint64, max(len(f), len(r)))
	for s := range coms {
		var values, blinders []uint64
		if s < len(f) {
			values = f[s]
		}
		if s < len(r) {
			blinders = r[s]
		}
		for j := range max(len(values), len(blinders)) {
			value, blinder := uint64(0), uint64(0)
			if j < len(values) {
				value = values[j]
			}
			if j < len(blinders) {
				blinder = blinders[j]
			}
			coms[s] = append(coms[s], commitmentOf(p, value, blinder))
		}
	}
	return coms
}

func isFormed(p api.Params, coms [][]uint64) bool {
	return uint64(len(coms)) == secretsOf(p) && fill(p, coms)
}

func shareOf(p api.Params, coms [][]uint64, i uint64) []uint64 {
	var values []uint64
	for _, list := range coms {
		values = append(values, valueOf(p, list, i))
	}
	return values
}

func isFitting(p api.Params, coms [][]uint64, i uint64, l []api.Pair) bool {
	for s, pair := range l {
		if len(l) != len(coms) || commitmentOf(p, pair.S, pair.B) != valueOf(p, coms[s], i) {
			return false
		}
	}
	return len(l) == len(coms)
}

func matrixOf(p api.Params, f, b [][][]uint64) [][][]uint64 {
	m := make([][][]uint64, max(len(f), len(b)))
	for s := range m {
		var values, blinders [][]uint64
		if s < len(f) {
			values = f[s]
		}
		if s < len(b) {
			blinders = b[s]
		}
		m[s] = comsOf(p, values, blinders)
	}
	return m
}

func isSquare(p api.Params, m [][][]uint64) bool {
	for _, lists := range m {
		if !isNext(p, len(lists)) || !fill(p, lists) {
			return false
		}
	}
	return uint64(len(m)) == secretsOf(p)
}

func rowComsOf(p api.Params, m [][][]uint64, x uint64) [][]uint64 {
	var coms [][]uint64
	for _, lists := range m {
		longest := 0
		for _, list := range lists {
			longest = max(longest, len(list))
		}
		var row []uint64
		for j := range longest {
			var column []uint64
			for _, list := range lists {
				c := reduced(p, 1)
				if j < len(list) {
					c = list[j]
				}
				column = append(column, c)
			}
			row = append(row, valueOf(p, column, x))
		}
		coms = append(coms, row)
	}
	return coms
}

func colComsOf(p api.Params, m [][][]uint64, y uint64) [][]uint64 {
	var coms [][]uint64
	for _, lists := range m {
		coms = append(coms, shareOf(p, lists, y))
	}
	return coms
}

func isBonded(p api.Params, m [][][]uint64, coms [][]uint64, i uint64) bool {
	if !isSquare(p, m) || !isFormed(p, coms) {
		return false
	}
	for s, lists := range m {
		if len(lists) == 0 || lists[0][0] != valueOf(p, coms[s], i) {
			return false
		}
	}
	return true
}

func sameLists(a, b [][]uint64) bool { return slices.EqualFunc(a, b, slices.Equal[[]uint64]) }

func sameMatrices(a, b [][][]uint64) bool { return slices.EqualFunc(a, b, sameLists) }

func cloned(lists [][]uint64) [][]uint64 {
	l := slices.Clone(lists)
	for i := range l {
		l[i] = slices.Clone(l[i])
	}
	return l
}

func clonedMatrix(m [][][]uint64) [][][]uint64 {
	l := slices.Clone(m)
	for s := range l {
		l[s] = cloned(l[s])
	}
	return l
}

// set returns lists of which one number is another.
func set(lists [][]uint64, s, j int, x uint64) [][]uint64 {
	l := cloned(lists)
	l[s][j] = x
	return l
}

// setMatrix returns a matrix of which one number is another.
func setMatrix(m [][][]uint64, s, i, j int, x uint64) [][][]uint64 {
	l := clonedMatrix(m)
	l[s][i][j] = x
	return l
}

// anyNumber returns a number modulo m, or beyond it.
func anyNumber(r *rand.Rand, m uint64) uint64 {
	switch r.Intn(8) {
	case 0:
		return 0
	case 1:
		return m
	case 2:
		return m - 1
	case 3:
		return math.MaxUint64 - uint64(r.Intn(3))
	case 4:
		return r.Uint64()
	default:
		return r.Uint64() % max(m, 1)
	}
}

// anyIndex returns an index: mostly one of the members', else any number.
func anyIndex(r *rand.Rand, q uint64) uint64 {
	if r.Intn(2) == 0 {
		return uint64(r.Intn(9))
	}
	return anyNumber(r, q)
}

// lift returns a number that is the same modulo q, often q or more.
func lift(r *rand.Rand, x, q uint64) uint64 {
	x %= q
	more := (math.MaxUint64 - x) / q
	switch r.Intn(4) {
	case 0:
		return x + q
	case 1:
		return x + more*q
	case 2:
		return x + (r.Uint64()%more)*q
	default:
		return x
	}
}

// other returns a number below q that is another one modulo q.
func other(r *rand.Rand, x, q uint64) uint64 { return (x%q + 1 + r.Uint64()%(q-1)) % q }

func anyNumbers(r *rand.Rand, n int, m uint64) []uint64 {
	l := make([]uint64, n)
	for i := range l {
		l[i] = anyNumber(r, m)
	}
	return l
}

// anyLists returns so many lists: all as long, the longest first, last or between, of any lengths, nil and not, or all empty.
func anyLists(r *rand.Rand, n int, m uint64) [][]uint64 {
	lists := make([][]uint64, n)
	most, kind := 1+r.Intn(4), r.Intn(7)
	for i := range lists {
		length := r.Intn(most + 1)
		switch {
		case kind == 0, kind == 1 && i == 0, kind == 2 && i == n-1, kind == 3 && i == n/2:
			length = most
		case kind <= 3:
			length = r.Intn(most)
		case kind == 4:
			length = 0
		}
		if length > 0 || r.Intn(2) == 0 {
			lists[i] = anyNumbers(r, length, m)
		}
	}
	return lists
}

func anyMatrix(r *rand.Rand, n int, m uint64) [][][]uint64 {
	var l [][][]uint64
	for range n {
		l = append(l, anyLists(r, r.Intn(4), m))
	}
	return l
}

// polynomials returns one of so many coefficients for each secret, some of them beyond Q.
func polynomials(r *rand.Rand, p api.Params, coefficients int) [][]uint64 {
	f := make([][]uint64, p.K*(p.D+1))
	for s := range f {
		f[s] = anyNumbers(r, coefficients, p.Q)
	}
	return f
}

// bivariates returns a polynomial in two variables for each secret.
func bivariates(r *rand.Rand, p api.Params) [][][]uint64 {
	f := make([][][]uint64, p.K*(p.D+1))
	for s := range f {
		f[s] = make([][]uint64, p.T+1)
		for i := range f[s] {
			f[s][i] = anyNumbers(r, p.T+1, p.Q)
		}
	}
	return f
}

// pairsAt returns the share of an index.
func pairsAt(p api.Params, f, b [][]uint64, i uint64) []api.Pair {
	l := make([]api.Pair, len(f))
	for s := range l {
		l[s] = api.Pair{S: poly.Eval(f[s], i, p.Q), B: poly.Eval(b[s], i, p.Q)}
	}
	return l
}

// wildParams returns parameters of which any may be wrong.
func wildParams(r *rand.Rand) api.Params {
	p := valid[r.Intn(len(valid))]
	if r.Intn(2) == 0 {
		ps := append([]uint64{1, 2, 4, 6, 9, 12, 23, 341, 1 << 32, mersenne, api.MaxP - 1, api.MaxP}, wrongP...)
		p.P = ps[r.Intn(len(ps))]
	}
	if r.Intn(2) == 0 {
		qs := append([]uint64{1, 2, 3, 4, 6, 22, 1 << 40, mersenne, api.MaxP}, wrongP...)
		p.Q = qs[r.Intn(len(qs))]
	}
	if r.Intn(2) == 0 {
		p.G, p.H = anyNumber(r, p.P), anyNumber(r, p.P)
	}
	p.T, p.K, p.D = r.Intn(6)-2, r.Intn(5)-1, r.Intn(5)-2
	return p
}

// visitWild visits the valid parameters, and many that are not.
func visitWild(seed int64, rounds int, visit func(r *rand.Rand, p api.Params)) {
	r := rand.New(rand.NewSource(seed))
	for range rounds {
		for _, p := range valid {
			visit(r, p)
		}
		for range 2 * len(valid) {
			visit(r, wildParams(r))
		}
	}
}

// visitValid visits valid parameters, and an index.
func visitValid(seed int64, rounds int, visit func(r *rand.Rand, p api.Params, i uint64)) {
	r := rand.New(rand.NewSource(seed))
	for _, p := range valid {
		for range rounds {
			visit(r, p, anyIndex(r, p.Q))
		}
	}
}

// ends are the indices that the edges have.
func ends(q uint64) []uint64 {
	return []uint64{0, 1, 2, 7, q - 1, q, q + 1, 2*q + 1, 1 << 63, math.MaxUint64 - 1, math.MaxUint64}
}

func TestParams(t *testing.T) {
	for _, p := range valid {
		if !group.May(p) {
			t.Errorf("the test is wrong: %v is not valid", p)
		}
	}
}

func TestExamples(t *testing.T) {
	coms := pedersen.Coms(small, [][]uint64{{1, 2}, {3}}, [][]uint64{{1}, {0, 1}})
	if !sameLists(coms, [][]uint64{{13, 16}, {18, 9}}) {
		t.Error("Coms:", coms)
	}
	if !pedersen.Formed(small, coms) {
		t.Error("Formed: false")
	}
	if pedersen.Formed(small, [][]uint64{{13, 16}}) {
		t.Error("Formed of one secret: true")
	}
	if share := pedersen.Share(small, coms, 2); !slices.Equal(share, []uint64{16, 9}) {
		t.Error("Share:", share)
	}
	if !pedersen.Fits(small, coms, 2, []api.Pair{{S: 5, B: 1}, {S: 3, B: 2}}) {
		t.Error("Fits: false")
	}
	if pedersen.Fits(small, coms, 2, []api.Pair{{S: 5, B: 1}}) {
		t.Error("Fits of one pair: true")
	}
}

// The powers of 4 modulo 23 are 1, 4, 16, 18, 3, 12, 2, 8, 9, 13, 6; 9 is the eighth one.
func TestP81ComsEdges(t *testing.T) {
	type l = [][]uint64
	for _, c := range []struct {
		what       string
		f, r, want l
	}{
		{"nothing", nil, nil, nil},
		{"nothing, empty", l{}, l{}, nil},
		{"one secret without coefficients", l{{}}, nil, l{{}}},
		{"one blinder without coefficients", nil, l{nil}, l{{}}},
		{"one secret without coefficients in both", l{nil}, l{{}}, l{{}}},
		{"values alone", l{{1, 2}, {3}}, nil, l{{4, 16}, {18}}},
		{"blinders alone", nil, l{{1}, {0, 1}}, l{{9}, {1, 9}}},
		{"more values than blinders", l{{1}, {2}, {3, 1}}, l{{1}}, l{{13}, {16}, {18, 4}}},
		{"more blinders than values", l{{1}}, l{{1}, {2}, {0, 2}}, l{{13}, {12}, {1, 12}}},
		{"f is longer", l{{1, 2, 3}}, l{{1}}, l{{13, 16, 18}}},
		{"r is longer", l{{1}}, l{{1, 2, 0, 1}}, l{{13, 12, 1, 9}}},
		{"f is longer, then r", l{{1, 2}, {1}}, l{{1}, {2, 1}}, l{{13, 16}, {2, 9}}},
		{"r is longer, then f", l{{1}, {1, 2}}, l{{1, 1}, {2}}, l{{13, 9}, {2, 16}}},
		{"a secret that f has not, between", l{{1}, nil, {2}}, l{{1}, {1}, {0}}, l{{13}, {9}, {16}}},
		{"a secret that r has not, between", l{{1}, {1}, {2}}, l{{1}, {}, {0}}, l{{13}, {4}, {16}}},
		{"a secret that neither has, between", l{{1}, nil, {2}}, l{{1}, {}, {0}}, l{{13}, {}, {16}}},
		{"0s are coefficients too", l{{0, 0}}, l{{0, 0, 0}}, l{{1, 1, 1}}},
		{"Q - 1", l{{10}}, l{{10}}, l{{16}}},
		{"Q is 0", l{{11, 22}}, l{{11, 1}}, l{{1, 9}}},
		{"from Q on", l{{12, 24}}, l{{12}}, l{{13, 16}}},
		{"from P on", l{{23, 24}}, l{{23}}, l{{13, 16}}},
		{"the greatest number is 4", l{{math.MaxUint64}, {}}, l{{}, {math.MaxUint64}}, l{{3}, {6}}},
		{"only values, then only blinders", l{{5}, nil}, l{nil, {5}}, l{{12}, {8}}},
	} {
		if coms := pedersen.Coms(small, c.f, c.r); !sameLists(coms, c.want) || !sameLists(coms, comsOf(small, c.f, c.r)) {
			t.Errorf("%s: Coms are %v, not %v", c.what, coms, c.want)
		}
	}
}

// TestP81Definition: anything by any parameters, held against the definition.
func TestP81Definition(t *testing.T) {
	visitWild(81, 120, func(r *rand.Rand, p api.Params) {
		f, b := anyLists(r, r.Intn(5), p.Q), anyLists(r, r.Intn(5), p.Q)
		if coms, want := pedersen.Coms(p, f, b), comsOf(p, f, b); !sameLists(coms, want) {
			t.Fatalf("Coms(%v, %v, %v) are %v, not %v", p, f, b, coms, want)
		}
		coms, i := anyLists(r, r.Intn(5), p.P), anyIndex(r, p.Q)
		share := pedersen.Share(p, coms, i)
		if !slices.Equal(share, shareOf(p, coms, i)) {
			t.Fatalf("Share(%v, %v, %d) is %v, not %v", p, coms, i, share, shareOf(p, coms, i))
		}
		if got := pedersen.Formed(p, coms); got != isFormed(p, coms) {
			t.Fatalf("Formed(%v, %v) is %t", p, coms, got)
		}
		l := make([]api.Pair, r.Intn(5))
		for s := range l {
			l[s] = api.Pair{S: anyNumber(r, p.Q), B: anyNumber(r, p.Q)}
		}
		if got := pedersen.Fits(p, coms, i, l); got != isFitting(p, coms, i, l) {
			t.Fatalf("Fits(%v, %v, %d, %v) is %t", p, coms, i, l, got)
		}
	})
}

// shapes are numbers of secrets, and of numbers of each, that parameters ask for, valid or not.
var shapes = []struct {
	what                  string
	t, k, d               int
	secrets, coefficients int // -1: as no list is long
}{
	{"as many as may be", 2, 2, 4, 10, 3},
	{"one less of each", 1, 1, 3, 4, 2},
	{"as few as may be", 1, 1, 1, 2, 2},
	{"T is 0", 0, 1, 1, 2, 1},
	{"T is -1", -1, 1, 1, 2, 0},
	{"T is -2", -2, 1, 1, 2, -1},
	{"T is -3", -3, 2, 1, 4, -1},
	{"T is 3", 3, 1, 1, 2, 4},
	{"T is the greatest", math.MaxInt, 1, 1, 2, -1},
	{"T is the least", math.MinInt, 1, 1, 2, -1},
	{"K is 0", 1, 0, 1, 0, 2},
	{"K is 3", 1, 3, 1, 6, 2},
	{"K is -1", 1, -1, 1, -1, 2},
	{"K is -1, D -3", 1, -1, -3, 2, 2},
	{"K is -2, D -2", 1, -2, -2, 2, 2},
	{"K is 2, D -3", 1, 2, -3, -1, 2},
	{"D is 0", 1, 2, 0, 2, 2},
	{"D is -1", 1, 2, -1, 0, 2},
	{"D is -2", 1, 2, -2, -1, 2},
	{"K and D are 0", 1, 0, 0, 0, 2},
	{"K and D are -1", 1, -1, -1, 0, 2},
	{"K is 0, T -1", -1, 0, 1, 0, 0},
	{"K is 0, T -2", -2, 0, 1, 0, -1},
	{"K is 0, T the greatest", math.MaxInt, 0, 1, 0, -1},
	{"K is 2^62, D 3: 2^64 secrets", 1, 1 << 62, 3, 0, 2},
	{"K is 2^62, D 1: 2^63 secrets", 1, 1 << 62, 1, -1, 2},
	{"K is 3, of 2^64 + 2 secrets", 1, 3, 6148914691236517205, 2, 2},
	{"K is 2^32 + 1, D 2^32: 2^64 and more", 1, 1<<32 + 1, 1<<32 - 1, -1, 2},
	{"K is 1, D the greatest", 1, 1, math.MaxInt, -1, 2},
	{"K is 2, D the greatest", 1, 2, math.MaxInt, 0, 2},
	{"K is 2, D the least", 1, 2, math.MinInt, 2, 2},
	{"K is the least, D 0", 1, math.MinInt, 0, -1, 2},
	{"K is the least, D 1", 1, math.MinInt, 1, 0, 2},
}

// filledWith returns so many lists of so many numbers of the group.
func filledWith(p api.Params, lists, numbers int) [][]uint64 {
	l := make([][]uint64, lists)
	for s := range l {
		for j := range numbers {
			l[s] = append(l[s], bigPow(p.G, uint64(s+3*j+1), p.P))
		}
	}
	return l
}

// TestP81FormedShapes: all numbers of secrets and of numbers of each, about those that are asked for.
func TestP81FormedShapes(t *testing.T) {
	for _, base := range []api.Params{small, great} {
		for _, c := range shapes {
			p := with(base, func(p *api.Params) { p.T, p.K, p.D = c.t, c.k, c.d })
			for secrets := range 12 {
				for numbers := range 5 {
					coms := filledWith(base, secrets, numbers)
					want := secrets == c.secrets && (numbers == c.coefficients || secrets == 0)
					if got := pedersen.Formed(p, coms); got != want || got != isFormed(p, coms) {
						t.Errorf("%s: Formed of %d secrets with %d numbers each: %t", c.what, secrets, numbers, got)
					}
				}
			}
		}
	}
}

// TestP81FormedOneOff: one list that is shorter or longer, and one number that is not in the group, at each place.
func TestP81FormedOneOff(t *testing.T) {
	for _, p := range valid {
		secrets := int(secretsOf(p))
		coms := filledWith(p, secrets, p.T+1)
		if !pedersen.Formed(p, coms) {
			t.Fatalf("by %v not formed", p)
		}
		for s := range coms {
			short, long, none := cloned(coms), cloned(coms), cloned(coms)
			short[s], long[s], none[s] = short[s][:p.T], append(long[s], p.G), nil
			if pedersen.Formed(p, short) || pedersen.Formed(p, long) || pedersen.Formed(p, none) {
				t.Errorf("by %v formed, where the secret %d has another number of commitments", p, s)
			}
			for j := range coms[s] {
				for _, x := range outside(p) {
					if pedersen.Formed(p, set(coms, s, j, x)) {
						t.Errorf("by %v formed, with %d at %d of the secret %d", p, x, j, s)
					}
				}
				for _, x := range []uint64{1, p.G, p.H} {
					if !pedersen.Formed(p, set(coms, s, j, x)) {
						t.Errorf("by %v not formed, with %d at %d of the secret %d", p, x, j, s)
					}
				}
			}
		}
	}
}

// outside returns numbers that are not in the group of valid parameters.
func outside(p api.Params) []uint64 {
	l := []uint64{0, p.P - 1, p.P, p.P + 1, p.P + p.G, 1 << 62, math.MaxUint64}
	for x := uint64(2); len(l) < 12; x++ {
		if !isIn(p, x) {
			l = append(l, x)
		}
	}
	return l
}

// TestP81FormedGroup: by any P and Q the numbers that are in the group are those that group has.
func TestP81FormedGroup(t *testing.T) {
	for _, P := range append([]uint64{1, 2, 4, 9, 12, 23, 24}, wrongP...) {
		for _, q := range []uint64{0, 1, 2, 3, 4, 5, 10, 11, 22, math.MaxUint64} {
			p := api.Params{P: P, Q: q, G: 4, H: 9, T: 0, K: 1, D: 0}
			for x := range uint64(30) {
				if got := pedersen.Formed(p, [][]uint64{{x}}); got != isIn(p, x) || got != group.Is(p, x) {
					t.Errorf("by %v Formed of %d is %t", p, x, got)
				}
				if got := pedersen.Square(p, [][][]uint64{{{x}}}); got != isIn(p, x) {
					t.Errorf("by %v Square of %d is %t", p, x, got)
				}
			}
			if p.T = -1; !pedersen.Formed(p, [][]uint64{nil}) || !pedersen.Square(p, [][][]uint64{nil}) {
				t.Errorf("by %v nothing is not formed, or not square", p)
			}
		}
	}
}

func TestP81ShareEdges(t *testing.T) {
	coms := [][]uint64{{13, 16}, {18, 9}, {}, nil, {5}, {0, 4}, {4, 0}, {36, 25, 4}, {4, 4, 4, 4}}
	for i, want := range map[uint64][]uint64{
		0:              {13, 18, 1, 1, 5, 0, 4, 13, 4}, // the first ones
		1:              {1, 1, 1, 1, 5, 0, 0, 12, 3},   // the products
		2:              {16, 9, 1, 1, 5, 0, 0, 18, 3},  // the second to the power of 2, the third of 4, the fourth of 8
		10:             {8, 2, 1, 1, 5, 0, 0, 3, 1},    // to the powers of -1, and of 1
		11:             {13, 18, 1, 1, 5, 0, 4, 13, 4}, // as 0
		12:             {1, 1, 1, 1, 5, 0, 0, 12, 3},   // as 1
		24:             {16, 9, 1, 1, 5, 0, 0, 18, 3},  // as 2
		math.MaxUint64: {2, 16, 1, 1, 5, 0, 0, 12, 9},  // as 4
	} {
		if share := pedersen.Share(small, coms, i); !slices.Equal(share, want) || !slices.Equal(share, shareOf(small, coms, i)) {
			t.Errorf("Share at %d is %v, not %v", i, share, want)
		}
	}
	for _, nothing := range [][][]uint64{nil, {}} {
		if share := pedersen.Share(small, nothing, 3); len(share) > 0 {
			t.Error("Share of nothing:", share)
		}
	}
}

// TestP81ShareIndices: indices that are the same modulo Q have the same share, by any parameters whose Q is a modulus, also for numbers that are not in the group.
func TestP81ShareIndices(t *testing.T) {
	visitWild(811, 40, func(r *rand.Rand, p api.Params) {
		coms := anyLists(r, 1+r.Intn(4), p.P)
		for _, i := range ends(p.Q) {
			share := pedersen.Share(p, coms, i)
			if !slices.Equal(share, shareOf(p, coms, i)) {
				t.Fatalf("Share(%v, %v, %d) is %v, not %v", p, coms, i, share, shareOf(p, coms, i))
			}
			if isModulus(p.Q) && !slices.Equal(share, pedersen.Share(p, coms, lift(r, i, p.Q))) {
				t.Fatalf("by %v the shares at %d are not the same as modulo Q", p, i)
			}
		}
	})
}

func TestP81FitsEdges(t *testing.T) {
	type l = []api.Pair
	coms := [][]uint64{{13, 16}, {18, 9}}
	const most = math.MaxUint64 // 4 modulo 11
	for _, c := range []struct {
		what string
		coms [][]uint64
		i    uint64
		l    l
		want bool
	}{
		{"nothing", nil, 2, nil, true},
		{"nothing, empty", [][]uint64{}, 2, l{}, true},
		{"no commitments", nil, 2, l{{S: 0, B: 0}}, false},
		{"no pairs", coms, 2, nil, false},
		{"too few", coms, 2, l{{S: 5, B: 1}}, false},
		{"too few, the second one", coms, 2, l{{S: 3, B: 2}}, false},
		{"too many", coms, 2, l{{S: 5, B: 1}, {S: 3, B: 2}, {S: 0, B: 0}}, false},
		{"too many, nothing behind", [][]uint64{{13, 16}}, 2, l{{S: 5, B: 1}, {S: 0, B: 0}}, false},
		{"too few, nothing missing", [][]uint64{{13, 16}, {1, 1}}, 2, l{{S: 5, B: 1}}, false},
		{"the share", coms, 2, l{{S: 5, B: 1}, {S: 3, B: 2}}, true},
		{"the first value off", coms, 2, l{{S: 4, B: 1}, {S: 3, B: 2}}, false},
		{"the first blinder off", coms, 2, l{{S: 5, B: 2}, {S: 3, B: 2}}, false},
		{"the last value off", coms, 2, l{{S: 5, B: 1}, {S: 2, B: 2}}, false},
		{"the last blinder off", coms, 2, l{{S: 5, B: 1}, {S: 3, B: 1}}, false},
		{"the halves exchanged", coms, 2, l{{S: 1, B: 5}, {S: 3, B: 2}}, false},
		{"the pairs exchanged", coms, 2, l{{S: 3, B: 2}, {S: 5, B: 1}}, false},
		{"both halves off, with the same commitment", coms, 2, l{{S: 2, B: 0}, {S: 0, B: 1}}, true},
		{"from Q on", coms, 2, l{{S: 16, B: 12}, {S: 14, B: 13}}, true},
		{"from Q on, one off", coms, 2, l{{S: 16, B: 12}, {S: 14, B: 14}}, false},
		{"not by P", coms, 2, l{{S: 5 + 23, B: 1}, {S: 3, B: 2}}, false},
		{"the greatest numbers", [][]uint64{{3}, {6}}, 2, l{{S: most, B: 0}, {S: 0, B: most}}, true},
		{"at 0", coms, 0, l{{S: 1, B: 1}, {S: 3, B: 0}}, true},
		{"at Q", coms, 11, l{{S: 1, B: 1}, {S: 3, B: 0}}, true},
		{"at 1", coms, 1, l{{S: 3, B: 1}, {S: 3, B: 1}}, true},
		{"at Q - 1", coms, 10, l{{S: 10, B: 1}, {S: 3, B: 10}}, true},
		{"at Q + 2", coms, 13, l{{S: 5, B: 1}, {S: 3, B: 2}}, true},
		{"at the greatest number", coms, most, l{{S: 9, B: 1}, {S: 3, B: 4}}, true},
		{"at another index", coms, 3, l{{S: 5, B: 1}, {S: 3, B: 2}}, false},
		{"another number of secrets than K (D + 1)", append(coms, []uint64{4}), 2, l{{S: 5, B: 1}, {S: 3, B: 2}, {S: 1, B: 0}}, true},
		{"another number of coefficients than T + 1", [][]uint64{{13, 16, 4}}, 2, l{{S: 9, B: 1}}, true},
		{"a secret without commitments", [][]uint64{{13, 16}, nil}, 2, l{{S: 5, B: 1}, {S: 0, B: 0}}, true},
		{"a secret without commitments, and no pair for it", [][]uint64{{13, 16}, nil}, 2, l{{S: 5, B: 1}}, false},
		{"commitments from P on", [][]uint64{{13 + 23, 16 + 46}}, 2, l{{S: 5, B: 1}}, true},
		{"commitments that are not in the group", [][]uint64{{5, 5}}, 1, l{{S: 6, B: 0}}, true},
		{"a value that is not in the group", [][]uint64{{5}}, 1, l{{S: 6, B: 0}}, false},
		{"0", [][]uint64{{0}}, 1, l{{S: 0, B: 0}}, false},
	} {
		if got := pedersen.Fits(small, c.coms, c.i, c.l); got != c.want || got != isFitting(small, c.coms, c.i, c.l) {
			t.Errorf("%s: Fits is %t", c.what, got)
		}
	}
}

// TestP81FitsAnyParams: what there is for parameters that are not valid: where there is no modulus all numbers are 0, and fit if there are as many.
func TestP81FitsAnyParams(t *testing.T) {
	for _, P := range append(slices.Clone(wrongP), 1) {
		p := with(small, func(p *api.Params) { p.P = P })
		coms := [][]uint64{{3, 4}, nil}
		if pairs := []api.Pair{{S: 5, B: 6}, {S: 7, B: 8}}; !pedersen.Fits(p, coms, 9, pairs) || pedersen.Fits(p, coms, 9, pairs[:1]) {
			t.Errorf("Fits by P %d", P)
		}
	}
	for _, q := range append(slices.Clone(wrongP), 1) {
		p := with(small, func(p *api.Params) { p.Q = q })
		if !pedersen.Fits(p, [][]uint64{{13, 16}}, 2, []api.Pair{{S: 0, B: 0}}) || pedersen.Fits(p, [][]uint64{{13, 16}}, 2, []api.Pair{{S: 1, B: 1}}) {
			t.Errorf("Fits by Q %d", q)
		}
	}
}

func TestP82MatrixEdges(t *testing.T) {
	type m = [][][]uint64
	for _, c := range []struct {
		what       string
		f, b, want m
	}{
		{"nothing", nil, nil, nil},
		{"nothing, empty", m{}, m{}, nil},
		{"one secret without lists", m{{}}, nil, m{{}}},
		{"one blinder without lists", nil, m{nil}, m{{}}},
		{"lists without numbers", m{{nil, {}}}, m{{{}}}, m{{{}, {}}}},
		{"values alone", m{{{1, 2}, {3, 4}}}, nil, m{{{4, 16}, {18, 3}}}},
		{"blinders alone", nil, m{{{1, 2}, {0, 1}}}, m{{{9, 12}, {1, 9}}}},
		{"both", m{{{1, 2}, {3, 0}}}, m{{{1, 0}, {0, 1}}}, m{{{13, 16}, {18, 9}}}},
		{"more values than blinders", m{{{1}}, {{2}}}, m{{{1}}}, m{{{13}}, {{16}}}},
		{"more blinders than values", m{{{1}}}, m{{{1}}, {{2}}}, m{{{13}}, {{12}}}},
		{"more lists of values", m{{{1}, {2}}}, m{{{1}}}, m{{{13}, {16}}}},
		{"more lists of blinders", m{{{1}}}, m{{{1}, {2}}}, m{{{13}, {12}}}},
		{"longer lists of values", m{{{1, 2}}}, m{{{1}}}, m{{{13, 16}}}},
		{"longer lists of blinders", m{{{1}}}, m{{{1, 2}}}, m{{{13, 12}}}},
		{"lists of unlike length", m{{{1}, {}, {1, 2}}, nil, {{3}}}, m{{{1, 2}, {5}}, {{1}}}, m{{{13, 12}, {8}, {4, 16}}, {{9}}, {{18}}}},
		{"a secret that neither has", m{{{1}}, nil, {{1}}}, m{{{1}}, {}, {{1}}}, m{{{13}}, {}, {{13}}}},
		{"from Q and P on", m{{{12, 24}, {23}}}, m{{{12}, {23, 11}}}, m{{{13, 16}, {13, 1}}}},
		{"not transposed", m{{{0, 1}, {2, 0}}}, nil, m{{{1, 4}, {16, 1}}}},
	} {
		if got := pedersen.Matrix(small, c.f, c.b); !sameMatrices(got, c.want) || !sameMatrices(got, matrixOf(small, c.f, c.b)) {
			t.Errorf("%s: Matrix is %v, not %v", c.what, got, c.want)
		}
	}
}

// TestP82Definition: anything by any parameters, held against the definition.
func TestP82Definition(t *testing.T) {
	visitWild(82, 100, func(r *rand.Rand, p api.Params) {
		f, b := anyMatrix(r, r.Intn(4), p.Q), anyMatrix(r, r.Intn(4), p.Q)
		if m, want := pedersen.Matrix(p, f, b), matrixOf(p, f, b); !sameMatrices(m, want) {
			t.Fatalf("Matrix(%v, %v, %v) is %v, not %v", p, f, b, m, want)
		}
		m, x := anyMatrix(r, r.Intn(4), p.P), anyIndex(r, p.Q)
		if coms, want := pedersen.RowComs(p, m, x), rowComsOf(p, m, x); !sameLists(coms, want) {
			t.Fatalf("RowComs(%v, %v, %d) are %v, not %v", p, m, x, coms, want)
		}
		if coms, want := pedersen.ColComs(p, m, x), colComsOf(p, m, x); !sameLists(coms, want) {
			t.Fatalf("ColComs(%v, %v, %d) are %v, not %v", p, m, x, coms, want)
		}
		coms := anyLists(r, r.Intn(4), p.P)
		if got := pedersen.Square(p, m); got != isSquare(p, m) {
			t.Fatalf("Square(%v, %v) is %t", p, m, got)
		}
		if got := pedersen.Bonded(p, m, coms, x); got != isBonded(p, m, coms, x) {
			t.Fatalf("Bonded(%v, %v, %v, %d) is %t", p, m, coms, x, got)
		}
	})
}

// cube returns a matrix of so many secrets, lists, and numbers of each, all in the group.
func cube(p api.Params, secrets, lists, numbers int) [][][]uint64 {
	m := make([][][]uint64, secrets)
	for s := range m {
		m[s] = filledWith(p, lists, numbers)
	}
	return m
}

// TestP82SquareShapes: all numbers of secrets, lists, and numbers of each, about those that are asked for. With each one Bonded is asked too.
func TestP82SquareShapes(t *testing.T) {
	for _, c := range shapes {
		p := with(small, func(p *api.Params) { p.T, p.K, p.D = c.t, c.k, c.d })
		coms := [][]uint64{}
		if c.secrets > 0 {
			coms = filledWith(small, c.secrets, max(c.coefficients, 0))
		}
		for s := range coms { // so that each value at 0 is the first number of a secret
			coms[s] = filledWith(small, 1, max(c.coefficients, 0))[0]
		}
		for secrets := range 12 {
			for lists := range 5 {
				for numbers := range 5 {
					m := cube(small, secrets, lists, numbers)
					square := secrets == c.secrets && (lists == c.coefficients && (numbers == c.coefficients || lists == 0) || secrets == 0)
					if got := pedersen.Square(p, m); got != square || got != isSquare(p, m) {
						t.Errorf("%s: Square of %d secrets with %d lists of %d numbers: %t", c.what, secrets, lists, numbers, got)
					}
					bonded := square && (secrets == 0 || lists > 0)
					if got := pedersen.Bonded(p, m, coms, 0); got != bonded || got != isBonded(p, m, coms, 0) {
						t.Errorf("%s: Bonded of %d secrets with %d lists of %d numbers: %t", c.what, secrets, lists, numbers, got)
					}
				}
			}
		}
	}
}

// changed visits matrices that are square but for one thing, and tells what it is.
func changed(p api.Params, m [][][]uint64, visit func(what string, m [][][]uint64)) {
	visit("a secret less", m[:len(m)-1])
	visit("a secret more", append(clonedMatrix(m), m[0]))
	visit("no secrets", nil)
	for s := range m {
		few, many, none := clonedMatrix(m), clonedMatrix(m), clonedMatrix(m)
		few[s], many[s], none[s] = few[s][:p.T], append(many[s], m[s][0]), nil
		visit("a list less", few)
		visit("a list more", many)
		visit("no lists", none)
		for i := range m[s] {
			few, many, none := clonedMatrix(m), clonedMatrix(m), clonedMatrix(m)
			few[s][i], many[s][i], none[s][i] = few[s][i][:p.T], append(many[s][i], p.G), nil
			visit("a number less", few)
			visit("a number more", many)
			visit("no numbers", none)
			for j := range m[s][i] {
				for _, x := range outside(p)[:8] {
					visit("a number that is not in the group", setMatrix(m, s, i, j, x))
				}
			}
		}
	}
}

// TestP82OneOff: matrices that are square but for one thing, at each place, are neither square nor bonded.
func TestP82OneOff(t *testing.T) {
	for _, p := range valid {
		m := cube(p, int(secretsOf(p)), p.T+1, p.T+1)
		coms := pedersen.ColComs(p, m, 0)
		if !pedersen.Square(p, m) || !pedersen.Bonded(p, m, coms, 0) {
			t.Fatalf("by %v not square, or not bonded", p)
		}
		changed(p, m, func(what string, m [][][]uint64) {
			if pedersen.Square(p, m) || pedersen.Bonded(p, m, coms, 0) {
				t.Fatalf("by %v with %s: square, or bonded: %v", p, what, m)
			}
		})
		for s := range coms {
			short, long, none := cloned(coms), cloned(coms), cloned(coms)
			short[s], long[s], none[s] = short[s][:p.T], append(long[s], 1), nil
			for _, l := range [][][]uint64{short, long, none, coms[:s], append(cloned(coms), coms[s])} {
				if pedersen.Bonded(p, m, l, 0) {
					t.Fatalf("by %v bonded to commitments that are not formed: %v", p, l)
				}
			}
			for j := range coms[s] {
				for _, x := range outside(p) {
					if pedersen.Bonded(p, m, set(coms, s, j, x), 0) {
						t.Fatalf("by %v bonded to commitments with %d, which is not in the group", p, x)
					}
				}
			}
		}
	}
}

// TestP82BondedValue: only the numbers at (0, 0) count, all of them, and only as the values at the index.
func TestP82BondedValue(t *testing.T) {
	visitValid(820, 20, func(r *rand.Rand, p api.Params, i uint64) {
		coms := pedersen.Coms(p, polynomials(r, p, p.T+1), polynomials(r, p, p.T+1))
		m := cube(p, len(coms), p.T+1, p.T+1)
		for s, value := range shareOf(p, coms, i) {
			m[s][0][0] = value
		}
		if !pedersen.Bonded(p, m, coms, i) || !pedersen.Bonded(p, m, coms, lift(r, i, p.Q)) {
			t.Fatalf("by %v %v is not bonded to %v at %d", p, m, coms, i)
		}
		for s := range m {
			off := bigMul(m[s][0][0], bigPow(p.G, 1+r.Uint64()%(p.Q-1), p.P), p.P)
			if pedersen.Bonded(p, setMatrix(m, s, 0, 0, off), coms, i) {
				t.Fatalf("by %v bonded with another value of the secret %d", p, s)
			}
			for a := range m[s] {
				for b := range m[s][a] {
					if a+b > 0 && !pedersen.Bonded(p, setMatrix(m, s, a, b, off), coms, i) {
						t.Fatalf("by %v the number at %d, %d counts", p, a, b)
					}
				}
			}
		}
		for _, j := range ends(p.Q) {
			if got := pedersen.Bonded(p, m, coms, j); got != isBonded(p, m, coms, j) {
				t.Fatalf("by %v at %d instead of %d Bonded is %t", p, j, i, got)
			}
		}
	})
}

func TestP82BondedEdges(t *testing.T) {
	m := [][][]uint64{{{16, 4}, {9, 1}}, {{9, 2}, {3, 4}}}
	coms := [][]uint64{{13, 16}, {18, 9}}
	for i, want := range map[uint64]bool{0: false, 1: false, 2: true, 3: false, 10: false, 11: false, 13: true, 24: true, math.MaxUint64: false, math.MaxUint64 - 2: true} {
		if pedersen.Bonded(small, m, coms, i) != want {
			t.Errorf("Bonded at %d: %t", i, !want)
		}
	}
	swapped := [][][]uint64{m[1], m[0]}
	if pedersen.Bonded(small, swapped, coms, 2) || pedersen.Bonded(small, m, [][]uint64{coms[1], coms[0]}, 2) {
		t.Error("Bonded with the secrets exchanged")
	}
	if !pedersen.Bonded(small, swapped, [][]uint64{coms[1], coms[0]}, 2) {
		t.Error("not Bonded with the secrets exchanged in both")
	}
	// Of a secret without lists there is no number at (0, 0), whatever the value.
	for _, P := range []uint64{0, 1, 2, 23, api.MaxP + 1} {
		p := with(small, func(p *api.Params) { p.P, p.T = P, -1 })
		none := [][][]uint64{nil, {}}
		if !pedersen.Square(p, none) || !pedersen.Formed(p, [][]uint64{nil, {}}) {
			t.Errorf("by P %d and T -1 not square, or not formed", P)
		}
		if pedersen.Bonded(p, none, [][]uint64{nil, {}}, 1) {
			t.Errorf("by P %d and T -1 bonded", P)
		}
		if p.K = 0; !pedersen.Bonded(p, nil, nil, 1) || pedersen.Bonded(p, none, nil, 1) || pedersen.Bonded(p, nil, [][]uint64{nil}, 1) {
			t.Errorf("by P %d and K 0 not bonded, or with too many secrets", P)
		}
	}
}

func TestP82RowsAndColumnsEdges(t *testing.T) {
	for _, c := range []struct {
		what  string
		lists [][]uint64
		i     uint64
		row   []uint64
		col   []uint64
	}{
		{"no lists", nil, 2, nil, nil},
		{"one list without numbers", [][]uint64{nil}, 2, nil, []uint64{1}},
		{"lists without numbers", [][]uint64{nil, {}, nil}, 2, nil, []uint64{1, 1, 1}},
		{"one number", [][]uint64{{4}}, 2, []uint64{4}, []uint64{4}},
		{"one list", [][]uint64{{4, 4}}, 2, []uint64{4, 4}, []uint64{18}},
		{"lists of one", [][]uint64{{4}, {4}}, 2, []uint64{18}, []uint64{4, 4}},
		{"two by two, at 0", [][]uint64{{4, 16}, {18, 3}}, 0, []uint64{4, 16}, []uint64{4, 18}},
		{"two by two, at 1", [][]uint64{{4, 16}, {18, 3}}, 1, []uint64{3, 2}, []uint64{18, 8}},
		{"two by two, at 2", [][]uint64{{4, 16}, {18, 3}}, 2, []uint64{8, 6}, []uint64{12, 1}},
		{"two by two, at Q - 1", [][]uint64{{4, 16}, {18, 3}}, 10, []uint64{13, 13}, []uint64{6, 6}},
		{"two by two, at Q", [][]uint64{{4, 16}, {18, 3}}, 11, []uint64{4, 16}, []uint64{4, 18}},
		{"two by two, at Q + 2", [][]uint64{{4, 16}, {18, 3}}, 13, []uint64{8, 6}, []uint64{12, 1}},
		{"two by two, at the greatest number", [][]uint64{{4, 16}, {18, 3}}, math.MaxUint64, []uint64{16, 8}, []uint64{13, 9}},
		{"the longest first", [][]uint64{{4, 16}, {18}}, 2, []uint64{8, 16}, []uint64{12, 18}},
		{"the longest last", [][]uint64{{4}, {18, 3}}, 2, []uint64{8, 9}, []uint64{4, 1}},
		{"the longest between", [][]uint64{{4}, {4, 4, 4}, {4}}, 2, []uint64{8, 16, 16}, []uint64{4, 8, 4}},
		{"an empty one first", [][]uint64{{}, {4, 4}}, 3, []uint64{18, 18}, []uint64{1, 3}},
		{"an empty one last", [][]uint64{{4, 4}, nil}, 3, []uint64{4, 4}, []uint64{3, 1}},
		{"0", [][]uint64{{0, 4}, {4, 4}}, 2, []uint64{0, 18}, []uint64{0, 18}},
		{"numbers from P on", [][]uint64{{27, 39}, {41, 26}}, 2, []uint64{8, 6}, []uint64{12, 1}},
		{"a number from P on alone, at 0", [][]uint64{{27}, {0}}, 0, []uint64{4}, []uint64{4, 0}},
		{"numbers that are not in the group", [][]uint64{{5}, {7}}, 10, []uint64{19}, []uint64{5, 7}},
	} {
		m := [][][]uint64{c.lists, {{4}}, c.lists}
		row, col := pedersen.RowComs(small, m, c.i), pedersen.ColComs(small, m, c.i)
		if want := [][]uint64{c.row, {4}, c.row}; !sameLists(row, want) || !sameLists(row, rowComsOf(small, m, c.i)) {
			t.Errorf("%s: RowComs are %v, not %v", c.what, row, want)
		}
		if want := [][]uint64{c.col, {4}, c.col}; !sameLists(col, want) || !sameLists(col, colComsOf(small, m, c.i)) {
			t.Errorf("%s: ColComs are %v, not %v", c.what, col, want)
		}
	}
	for _, nothing := range [][][][]uint64{nil, {}} {
		if row, col := pedersen.RowComs(small, nothing, 2), pedersen.ColComs(small, nothing, 2); len(row)+len(col) > 0 {
			t.Error("of nothing:", row, col)
		}
	}
}

// TestP82RowsAndColumnsAnyParams: where P is no modulus all numbers are 0, but there are as many as always; modulo 1 they are 0 as well.
func TestP82RowsAndColumnsAnyParams(t *testing.T) {
	m := [][][]uint64{{{4, 16}, {18}, {}}, nil, {nil, {5, 6, 7}}}
	for _, P := range append(slices.Clone(wrongP), 1) {
		p := with(small, func(p *api.Params) { p.P = P })
		for _, i := range ends(p.Q) {
			if row := pedersen.RowComs(p, m, i); !sameLists(row, [][]uint64{{0, 0}, {}, {0, 0, 0}}) {
				t.Errorf("by P %d at %d: RowComs are %v", P, i, row)
			}
			if col := pedersen.ColComs(p, m, i); !sameLists(col, [][]uint64{{0, 0, 0}, {}, {0, 0}}) {
				t.Errorf("by P %d at %d: ColComs are %v", P, i, col)
			}
			if share := pedersen.Share(p, m[0], i); !slices.Equal(share, []uint64{0, 0, 0}) {
				t.Errorf("by P %d at %d: Share is %v", P, i, share)
			}
		}
		if coms := pedersen.Coms(p, m[0], m[2]); !sameLists(coms, [][]uint64{{0, 0}, {0, 0, 0}, {}}) {
			t.Errorf("by P %d: Coms are %v", P, coms)
		}
		if l := pedersen.Matrix(p, m, nil); !sameMatrices(l, [][][]uint64{{{0, 0}, {0}, {}}, nil, {nil, {0, 0, 0}}}) {
			t.Errorf("by P %d: Matrix is %v", P, l)
		}
	}
	// Where Q is none all powers are by 0.
	for _, q := range append(slices.Clone(wrongP), 1) {
		p := with(small, func(p *api.Params) { p.Q = q })
		row, col := pedersen.RowComs(p, m, 2), pedersen.ColComs(p, m, 2)
		if !sameLists(row, [][]uint64{{1, 1}, {}, {1, 1, 1}}) || !sameLists(col, [][]uint64{{1, 1, 1}, {}, {1, 1}}) {
			t.Errorf("by Q %d: %v, %v", q, row, col)
		}
	}
}

// TestP82Many: a long list among very many that are empty: what is missing costs nothing.
func TestP82Many(t *testing.T) {
	const many, long = 1 << 17, 1 << 17
	for _, place := range []int{0, 1, many / 2, many - 1} {
		lists := make([][]uint64, many)
		lists[place] = slices.Repeat([]uint64{4}, long)
		m := [][][]uint64{lists}
		row, col := pedersen.RowComs(small, m, 2), pedersen.ColComs(small, m, 0)
		value := bigPow(4, bigPow(2, uint64(place), 11), 23)
		if len(row) != 1 || len(row[0]) != long || row[0][0] != value || row[0][long-1] != value {
			t.Error("RowComs with a long list at", place)
		}
		if len(col) != 1 || len(col[0]) != many || col[0][place] != 4 || col[0][(place+1)%many] != 1 {
			t.Error("ColComs with a long list at", place)
		}
	}
}

// unlike cuts lists short, so that two of them are of unlike shapes.
func unlike(r *rand.Rand, f [][][]uint64) [][][]uint64 {
	for s := range f {
		for i := range f[s] {
			f[s][i] = f[s][i][:r.Intn(len(f[s][i])+1)]
		}
		f[s] = f[s][:r.Intn(len(f[s])+1)]
	}
	return f[:r.Intn(len(f)+1)]
}

func TestP83Rows(t *testing.T) {
	visitValid(83, 60, func(r *rand.Rand, p api.Params, i uint64) {
		f, b := bivariates(r, p), bivariates(r, p)
		if r.Intn(2) == 0 {
			f, b = unlike(r, f), unlike(r, b)
		}
		m := pedersen.Matrix(p, f, b)
		lists := func(f [][][]uint64, of func(f [][]uint64, x, q uint64) []uint64) [][]uint64 {
			var l [][]uint64
			for s := range f {
				l = append(l, of(f[s], i, p.Q))
			}
			return l
		}
		rows, cols := pedersen.Coms(p, lists(f, bivar.Row), lists(b, bivar.Row)), pedersen.Coms(p, lists(f, bivar.Col), lists(b, bivar.Col))
		if got := pedersen.RowComs(p, m, i); !sameLists(got, rows) {
			t.Fatalf("by %v the rows of %v and %v at %d have %v, not %v", p, f, b, i, got, rows)
		}
		if got := pedersen.ColComs(p, m, i); !sameLists(got, cols) {
			t.Fatalf("by %v the columns of %v and %v at %d have %v, not %v", p, f, b, i, got, cols)
		}
	})
}

func TestP84EitherWay(t *testing.T) {
	visitValid(84, 60, func(r *rand.Rand, p api.Params, x uint64) {
		y := anyIndex(r, p.Q)
		f, b := bivariates(r, p), bivariates(r, p)
		if r.Intn(2) == 0 {
			f, b = unlike(r, f), unlike(r, b)
		}
		m := pedersen.Matrix(p, f, b)
		if r.Intn(4) == 0 { // also of what is no matrix of polynomials, but all in the group
			for s := range m {
				m[s] = filledWith(p, r.Intn(4), r.Intn(4))
			}
		}
		byRow, byCol := pedersen.Share(p, pedersen.RowComs(p, m, x), y), pedersen.Share(p, pedersen.ColComs(p, m, y), x)
		if !slices.Equal(byRow, byCol) || len(byRow) != len(m) {
			t.Fatalf("by %v %v at %d, %d: %v by the row, %v by the column", p, m, x, y, byRow, byCol)
		}
		for s := range m {
			value, blinder := uint64(0), uint64(0)
			if s < len(f) {
				value = bivar.At(f[s], x, y, p.Q)
			}
			if s < len(b) {
				blinder = bivar.At(b[s], x, y, p.Q)
			}
			if sameMatrices(m, pedersen.Matrix(p, f, b)) && byRow[s] != commitmentOf(p, value, blinder) {
				t.Fatalf("by %v the value of %v and %v at %d, %d is not what is committed to", p, f, b, x, y)
			}
		}
	})
}

func TestP85Shares(t *testing.T) {
	visitValid(85, 60, func(r *rand.Rand, p api.Params, i uint64) {
		f, b := polynomials(r, p, p.T+1), polynomials(r, p, p.T+1)
		coms, l := pedersen.Coms(p, f, b), pairsAt(p, f, b, i)
		if !pedersen.Formed(p, coms) {
			t.Fatalf("by %v the commitments %v are not formed", p, coms)
		}
		if !pedersen.Fits(p, coms, i, l) || !pedersen.Fits(p, coms, lift(r, i, p.Q), l) {
			t.Fatalf("by %v the share %v of %d does not fit %v", p, l, i, coms)
		}
		for s := range l {
			value, blinder, lifted := slices.Clone(l), slices.Clone(l), slices.Clone(l)
			value[s].S, blinder[s].B = lift(r, other(r, l[s].S, p.Q), p.Q), lift(r, other(r, l[s].B, p.Q), p.Q)
			lifted[s] = api.Pair{S: lift(r, l[s].S, p.Q), B: lift(r, l[s].B, p.Q)}
			if pedersen.Fits(p, coms, i, value) || pedersen.Fits(p, coms, i, blinder) {
				t.Fatalf("by %v another half than that of %v fits at %d", p, l[s], i)
			}
			if !pedersen.Fits(p, coms, i, lifted) {
				t.Fatalf("by %v %v does not fit at %d, though it is the same modulo Q as %v", p, lifted, i, l)
			}
		}
		j := anyIndex(r, p.Q)
		if got := pedersen.Fits(p, coms, j, l); got != isFitting(p, coms, j, l) {
			t.Fatalf("by %v the share of %d at %d: %t", p, i, j, got)
		}
	})
}

// TestP85All: by small groups, all pairs: with each value one blinder fits, with each blinder one value.
func TestP85All(t *testing.T) {
	r := rand.New(rand.NewSource(850))
	for _, p := range []api.Params{small, five, seven, valid[5]} {
		for range 20 {
			f, b := polynomials(r, p, p.T+1), polynomials(r, p, p.T+1)
			coms := pedersen.Coms(p, f, b)
			for i := range p.Q {
				l := pairsAt(p, f, b, i)
				ofValue, ofBlinder := make([]int, p.Q), make([]int, p.Q)
				for value := range p.Q {
					for blinder := range p.Q {
						pair := api.Pair{S: value, B: blinder}
						if pedersen.Fits(p, coms, i, append([]api.Pair{pair}, l[1:]...)) {
							ofValue[value]++
							ofBlinder[blinder]++
						}
					}
				}
				for _, n := range append(ofValue, ofBlinder...) {
					if n != 1 {
						t.Fatalf("by %v at %d there fit %v blinders of each value, %v values of each blinder", p, i, ofValue, ofBlinder)
					}
				}
			}
		}
	}
}

// through returns polynomials with these values at an index, T + 1 coefficients each.
func through(r *rand.Rand, p api.Params, i uint64, values []uint64) [][]uint64 {
	f := polynomials(r, p, p.T+1)
	for s := range f {
		f[s][0] = 0
		f[s][0] = new(big.Int).Mod(new(big.Int).Sub(bigOf(values[s]), bigOf(poly.Eval(f[s], i, p.Q))), bigOf(p.Q)).Uint64()
	}
	return f
}

func TestP86Bonded(t *testing.T) {
	visitValid(86, 40, func(r *rand.Rand, p api.Params, i uint64) {
		f, b := polynomials(r, p, p.T+1), polynomials(r, p, p.T+1)
		l, values, blinders := pairsAt(p, f, b, i), []uint64{}, []uint64{}
		bf, bb := bivariates(r, p), bivariates(r, p)
		for s, pair := range l {
			bf[s][0][0], bb[s][0][0] = lift(r, pair.S, p.Q), lift(r, pair.B, p.Q)
			values, blinders = append(values, pair.S), append(blinders, pair.B)
		}
		// To its own commitments, and to all others that the share fits there.
		bonds := [][][]uint64{pedersen.Coms(p, f, b)}
		for range 4 {
			bonds = append(bonds, pedersen.Coms(p, through(r, p, i, values), through(r, p, i, blinders)))
		}
		m := pedersen.Matrix(p, bf, bb)
		s := r.Intn(len(l))
		liar := clonedMatrix(bf)
		liar[s][0][0] = lift(r, other(r, l[s].S, p.Q), p.Q)
		lie := pedersen.Matrix(p, liar, bb)
		for _, coms := range bonds {
			if !pedersen.Fits(p, coms, i, l) || !pedersen.Bonded(p, m, coms, i) || !pedersen.Bonded(p, m, coms, lift(r, i, p.Q)) {
				t.Fatalf("by %v the matrix of %v and %v is not bonded to %d by %v", p, bf, bb, i, coms)
			}
			if pedersen.Bonded(p, lie, coms, i) {
				t.Fatalf("by %v the matrix of %v and %v is bonded to %d by %v", p, liar, bb, i, coms)
			}
		}
	})
}

// TestP86All: by the smallest group, all commitments of a secret and all values: bonded are those that the share fits, and with another value none of these.
func TestP86All(t *testing.T) {
	r := rand.New(rand.NewSource(860))
	p := five
	for i := range uint64(p.N) + 1 {
		f, b := bivariates(r, p), bivariates(r, p)
		l := []api.Pair{{S: f[0][0][0] % p.Q, B: b[0][0][0] % p.Q}, {S: f[1][0][0] % p.Q, B: b[1][0][0] % p.Q}}
		second := pedersen.Coms(p, through(r, p, i, []uint64{l[0].S, l[1].S}), through(r, p, i, []uint64{l[0].B, l[1].B}))[1]
		fitting := 0
		for value := range p.Q {
			f[0][0][0] = value
			m := pedersen.Matrix(p, f, b)
			for c := range p.Q {
				for d := range p.Q {
					coms := [][]uint64{{bigPow(p.G, c, p.P), bigPow(p.G, d, p.P)}, second}
					fits := pedersen.Fits(p, coms, i, l)
					if bonded := pedersen.Bonded(p, m, coms, i); value == l[0].S && bonded != fits || value != l[0].S && fits && bonded {
						t.Fatalf("with the value %d of %v at %d and %v: fits %t, bonded %t", value, l, i, coms, fits, bonded)
					}
					if fits {
						fitting++
					}
				}
			}
		}
		if fitting != int(p.Q*p.Q) {
			t.Fatalf("at %d the share fits %d commitments, not %d for each value", i, fitting, p.Q)
		}
	}
}

// kept returns what a list and the memory behind it hold.
func kept[T any](l []T) []T { return slices.Clone(l[:cap(l)]) }

// spare returns a list with memory behind its end, which is not 0.
func spare[T any](l []T, behind T) []T { return append(slices.Clone(l), behind, behind)[:len(l)] }

// spareMatrix returns lists of lists of lists, each with memory behind its end.
func spareMatrix(m [][][]uint64) [][][]uint64 {
	l := make([][][]uint64, len(m))
	for s := range m {
		l[s] = make([][]uint64, len(m[s]))
		for i := range m[s] {
			l[s][i] = spare(m[s][i], 77)
		}
		l[s] = spare(l[s], []uint64{78})
	}
	return spare(l, [][]uint64{{79}})
}

// keptMatrix returns all that lists of lists of lists hold, and the memory behind them.
func keptMatrix(m [][][]uint64) [][][]uint64 {
	l := kept(m)
	for s := range l {
		l[s] = kept(l[s])
		for i := range l[s] {
			l[s][i] = kept(l[s][i])
		}
	}
	return l
}

// spoil writes over all that lists have, also behind their ends.
func spoil(lists [][]uint64) {
	for _, list := range lists[:cap(lists)] {
		for i := range list[:cap(list)] {
			list[:cap(list)][i] += 7
		}
	}
}

// apart reports whether writing into one list of an answer leaves all others as they are.
func apart(lists [][]uint64) bool {
	for s, list := range lists {
		rest := cloned(lists)
		for i := range list[:cap(list)] {
			list[:cap(list)][i] += 5
		}
		for o := range lists {
			if o != s && !slices.Equal(lists[o], rest[o]) {
				return false
			}
		}
	}
	return true
}

// TestR1Unchanged: nothing that is handed in is changed, also not behind its end, and writing into an answer changes nothing else.
func TestR1Unchanged(t *testing.T) {
	visitWild(1, 12, func(r *rand.Rand, p api.Params) {
		f, b := spareMatrix(anyMatrix(r, 1+r.Intn(3), p.Q)), spareMatrix(anyMatrix(r, 1+r.Intn(3), p.Q))
		if r.Intn(2) == 0 && group.May(p) {
			f, b = spareMatrix(cube(p, int(secretsOf(p)), p.T+1, p.T+1)), spareMatrix(bivariates(r, p))
		}
		l := spare([]api.Pair{{S: 3, B: anyNumber(r, p.Q)}, {S: anyNumber(r, p.Q), B: 4}}, api.Pair{S: 80, B: 81})[:r.Intn(3)]
		keptF, keptB, keptL, i := keptMatrix(f), keptMatrix(b), kept(l), anyIndex(r, p.Q)
		coms, blinders := f[0], b[0]
		answers := func() [][][]uint64 {
			pedersen.Formed(p, coms)
			pedersen.Fits(p, coms, i, l)
			pedersen.Square(p, f)
			pedersen.Bonded(p, f, coms, i)
			lists := [][][]uint64{pedersen.Coms(p, coms, blinders), {pedersen.Share(p, coms, i)}, pedersen.RowComs(p, f, i), pedersen.ColComs(p, f, i)}
			return append(lists, pedersen.Matrix(p, f, b)...)
		}
		first, again := answers(), answers()
		for _, lists := range first {
			spoil(lists)
		}
		last := answers()
		if !sameMatrices(again, last) {
			t.Fatalf("by %v answers change with answers", p)
		}
		if !apart(slices.Concat(last...)) {
			t.Fatalf("by %v lists of one answer share memory", p)
		}
		if !sameMatrices(keptMatrix(f), keptF) || !sameMatrices(keptMatrix(b), keptB) || !slices.Equal(kept(l), keptL) {
			t.Fatalf("by %v what was handed in is changed", p)
		}
	})
}

// TestR1Same: the same lists handed in as both, and lists that share memory, are only read.
func TestR1Same(t *testing.T) {
	back := []uint64{1, 2, 3, 4}
	lists := [][]uint64{back[:2], back[1:3], back[:2], back[3:]}
	if coms := pedersen.Coms(small, lists, lists); !sameLists(coms, comsOf(small, lists, lists)) || !apart(coms) {
		t.Error("Coms of the same lists:", coms)
	}
	m := [][][]uint64{lists, lists}
	if l := pedersen.Matrix(small, m, m); !sameMatrices(l, matrixOf(small, m, m)) || !apart(slices.Concat(l...)) {
		t.Error("Matrix of the same lists:", l)
	}
	for _, x := range []uint64{0, 1, 2} {
		if row, col := pedersen.RowComs(small, m, x), pedersen.ColComs(small, m, x); !sameLists(row, rowComsOf(small, m, x)) || !sameLists(col, colComsOf(small, m, x)) || !apart(append(row, col...)) {
			t.Error("RowComs and ColComs of the same lists:", row, col)
		}
	}
	if !slices.Equal(back, []uint64{1, 2, 3, 4}) {
		t.Error("what was handed in is changed:", back)
	}
}

// TestR1Empty: a list that is nil and one that is empty are the same.
func TestR1Empty(t *testing.T) {
	empties := [][][]uint64{{nil, {4}}, {{}, {4}}, {make([]uint64, 0, 3), {4}}}
	pairs := []api.Pair{{}, {S: 1}}
	for _, e := range empties {
		if !sameLists(pedersen.Coms(small, e, nil), pedersen.Coms(small, empties[0], [][]uint64{})) {
			t.Error("Coms")
		}
		if !slices.Equal(pedersen.Share(small, e, 3), []uint64{1, 4}) || !pedersen.Fits(small, e, 3, pairs) || pedersen.Formed(small, e) {
			t.Error("Share, Fits or Formed")
		}
		m := [][][]uint64{e, nil, {}}
		if !sameLists(pedersen.RowComs(small, m, 2), [][]uint64{{16}, {}, {}}) || !sameLists(pedersen.ColComs(small, m, 2), [][]uint64{{1, 4}, {}, {}}) {
			t.Error("RowComs or ColComs")
		}
		if pedersen.Square(small, m) || pedersen.Bonded(small, m, e, 2) || len(pedersen.Matrix(small, m, nil)) != 3 {
			t.Error("Square, Bonded or Matrix")
		}
	}
	if !pedersen.Fits(small, nil, 1, []api.Pair{}) || !pedersen.Fits(small, [][]uint64{}, 1, nil) {
		t.Error("Fits of nothing")
	}
}
