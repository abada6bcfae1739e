package bivar_test

import (
	"math"
	"math/big"
	"math/rand"
	"slices"
	"testing"

	"consistory/api"
	"consistory/bivar"
	"consistory/poly"
)

const mersenne = 1<<61 - 1 // the greatest prime up to MaxP

// primes are the least one, small ones, and great ones.
var primes = []uint64{2, 3, 5, 7, 11, 13, 1321, 8796095119369, 1152921504606845789, 2305843009213691579, mersenne}

// moduli are allowed ones: the least and the greatest, primes and others.
var moduli = append([]uint64{1, 4, 6, 9, 12, 35, 561, 1 << 32, 1<<32 - 1, mersenne - 1, api.MaxP}, primes...)

// wrong are no moduli: 0, and numbers above MaxP, the last four of them primes.
var wrong = []uint64{0, api.MaxP + 1, api.MaxP + 2, 1 << 62, 1 << 63, math.MaxUint64,
	2305843009213693967, 2305843009213699919, 1<<63 - 25, math.MaxUint64 - 58}

// A judged result is what Through answers.
type judged struct {
	f [][]uint64
	e api.Errno
}

func through(xs []uint64, rows [][]uint64, q uint64) judged {
	f, e := bivar.Through(xs, rows, q)
	return judged{f, e}
}

// fine returns the polynomial through rows, and fails where there is an error.
func fine(t *testing.T, xs []uint64, rows [][]uint64, q uint64) [][]uint64 {
	t.Helper()
	f, e := bivar.Through(xs, rows, q)
	if e != api.OK {
		t.Fatalf("Through(%v, %v, %d): error %d", xs, rows, q, e)
	}
	return f
}

func sameLists(a, b [][]uint64) bool { return slices.EqualFunc(a, b, slices.Equal[[]uint64]) }

func cloned(lists [][]uint64) [][]uint64 {
	l := slices.Clone(lists)
	for i := range l {
		l[i] = slices.Clone(l[i])
	}
	return l
}

func bigOf(x uint64) *big.Int { return new(big.Int).SetUint64(x) }

func bigMod(z *big.Int, q uint64) uint64 { return new(big.Int).Mod(z, bigOf(q)).Uint64() }

func powerOf(x uint64, i int, q uint64) *big.Int {
	return new(big.Int).Exp(bigOf(x), big.NewInt(int64(i)), bigOf(q))
}

// valueOf returns the value by the definition: the sum of coefficients times powers of both.
func valueOf(f [][]uint64, x, y, q uint64) uint64 {
	sum := new(big.Int)
	for i, list := range f {
		for j, c := range list {
			term := new(big.Int).Mul(powerOf(x, i, q), powerOf(y, j, q))
			sum.Add(sum, term.Mul(term, bigOf(c)))
		}
	}
	return bigMod(sum, q)
}

// widthOf returns the length of the longest list.
func widthOf(f [][]uint64) int {
	width := 0
	for _, list := range f {
		if len(list) > width {
			width = len(list)
		}
	}
	return width
}

// rowOf returns the row by the definition, coefficient by coefficient.
func rowOf(f [][]uint64, x, q uint64) []uint64 {
	var row []uint64
	for j := range widthOf(f) {
		sum := new(big.Int)
		for i, list := range f {
			if j < len(list) {
				sum.Add(sum, new(big.Int).Mul(powerOf(x, i, q), bigOf(list[j])))
			}
		}
		row = append(row, bigMod(sum, q))
	}
	return row
}

// colOf returns the column by the definition.
func colOf(f [][]uint64, y, q uint64) []uint64 {
	var column []uint64
	for _, list := range f {
		sum := new(big.Int)
		for j, c := range list {
			sum.Add(sum, new(big.Int).Mul(powerOf(y, j, q), bigOf(c)))
		}
		column = append(column, bigMod(sum, q))
	}
	return column
}

// errorOf returns the error that chapter 3 has for points, and as many values as there are rows.
func errorOf(xs []uint64, rows int, q uint64) api.Errno {
	if q == 0 || q > api.MaxP || len(xs) != rows {
		return api.ErrArg
	}
	if len(xs) > api.MaxNums {
		return api.ErrTooLarge
	}
	none := api.OK
	for i, x := range xs {
		for _, y := range xs[:i] {
			if x%q == y%q {
				return api.ErrTwice
			}
			if new(big.Int).ModInverse(new(big.Int).Sub(bigOf(x), bigOf(y)), bigOf(q)) == nil {
				none = api.ErrNone
			}
		}
	}
	return none
}

// padded returns rows below q, all as long as the longest one.
func padded(rows [][]uint64, q uint64) [][]uint64 {
	l := make([][]uint64, len(rows))
	for i, row := range rows {
		l[i] = make([]uint64, widthOf(rows))
		for j, c := range row {
			l[i][j] = c % q
		}
	}
	return l
}

// lift returns a number that is the same modulo q, often q or more.
func lift(r *rand.Rand, x, q uint64) uint64 {
	x %= q
	more := (math.MaxUint64 - x) / q
	switch r.Intn(4) {
	case 0:
		return x + q
	case 1:
		return x + more*q
	case 2:
		return x + (r.Uint64()%more)*q
	default:
		return x
	}
}

// anyNumber returns a number modulo q, or beyond it.
func anyNumber(r *rand.Rand, q uint64) uint64 {
	switch r.Intn(8) {
	case 0:
		return 0
	case 1:
		return q
	case 2:
		return q - 1
	case 3:
		return math.MaxUint64 - uint64(r.Intn(3))
	case 4:
		return r.Uint64()
	default:
		return r.Uint64() % q
	}
}

func anyNumbers(r *rand.Rand, n int, q uint64) []uint64 {
	l := make([]uint64, n)
	for i := range l {
		l[i] = anyNumber(r, q)
	}
	return l
}

// anyLists returns so many lists: all as long, the longest first, last or between, of any lengths, nil and not, or all empty.
func anyLists(r *rand.Rand, n int, q uint64) [][]uint64 {
	lists := make([][]uint64, n)
	most, kind := 1+r.Intn(6), r.Intn(7)
	for i := range lists {
		length := r.Intn(most + 1)
		switch {
		case kind == 0, kind == 1 && i == 0, kind == 2 && i == n-1, kind == 3 && i == n/2:
			length = most
		case kind <= 3:
			length = r.Intn(most)
		case kind == 4:
			length = 0
		}
		if length > 0 || r.Intn(2) == 0 {
			lists[i] = anyNumbers(r, length, q)
		}
	}
	return lists
}

// anyPoints returns so many points that are different modulo q, or q if there are no more.
func anyPoints(r *rand.Rand, n int, q uint64) []uint64 {
	var xs []uint64
	for len(xs) < n && uint64(len(xs)) < q {
		x := anyNumber(r, q)
		if r.Intn(2) == 0 {
			x = uint64(r.Intn(9))
		}
		if !slices.ContainsFunc(xs, func(y uint64) bool { return y%q == x%q }) {
			xs = append(xs, lift(r, x, q))
		}
	}
	return xs
}

// visitAny visits bivariate polynomials of unlike shapes, and a place.
func visitAny(seed int64, moduli []uint64, rounds int, visit func(r *rand.Rand, f [][]uint64, x, y, q uint64)) {
	r := rand.New(rand.NewSource(seed))
	for _, q := range moduli {
		for range rounds {
			visit(r, anyLists(r, r.Intn(6), q), anyNumber(r, q), anyNumber(r, q), q)
		}
	}
}

func TestExamples(t *testing.T) {
	f := [][]uint64{{1, 2}, {3, 4}}
	if v := bivar.At(f, 2, 5, 11); v != 2 {
		t.Error("At:", v)
	}
	if row := bivar.Row(f, 2, 11); !slices.Equal(row, []uint64{7, 10}) {
		t.Error("Row:", row)
	}
	if column := bivar.Col(f, 5, 11); !slices.Equal(column, []uint64{0, 1}) {
		t.Error("Col:", column)
	}
	rows := [][]uint64{{4, 6}, {7, 10}}
	if got := through([]uint64{1, 2}, rows, 11); got.e != api.OK || !sameLists(got.f, f) {
		t.Error("Through:", got)
	}
	if got := through([]uint64{1, 12}, rows, 11); got.e != api.ErrTwice || got.f != nil {
		t.Error("Through the points 1, 12:", got)
	}
	if got := through([]uint64{1, 2}, rows[:1], 11); got.e != api.ErrArg || got.f != nil {
		t.Error("Through two points and one row:", got)
	}
}

func TestP61Edges(t *testing.T) {
	const great = math.MaxUint64 // 7 modulo mersenne
	for _, c := range []struct {
		what     string
		f        [][]uint64
		x, y, q  uint64
		at       uint64
		row, col []uint64
	}{
		{"no lists", nil, 2, 5, 11, 0, nil, nil},
		{"no lists", [][]uint64{}, 2, 5, 11, 0, nil, nil},
		{"one empty list", [][]uint64{{}}, 2, 5, 11, 0, nil, []uint64{0}},
		{"a list that is nil", [][]uint64{nil}, 2, 5, 11, 0, nil, []uint64{0}},
		{"all lists empty", [][]uint64{nil, {}, nil}, 2, 5, 11, 0, nil, []uint64{0, 0, 0}},
		{"one number", [][]uint64{{4}}, 2, 5, 11, 4, []uint64{4}, []uint64{4}},
		{"one number, 0", [][]uint64{{0}}, 2, 5, 11, 0, []uint64{0}, []uint64{0}},
		{"one list", [][]uint64{{4, 3, 2}}, 2, 5, 11, 3, []uint64{4, 3, 2}, []uint64{3}},
		{"lists of one", [][]uint64{{4}, {3}, {2}}, 5, 2, 11, 3, []uint64{3}, []uint64{4, 3, 2}},
		{"the longest first", [][]uint64{{1, 2, 3}, {4, 5}, {6}}, 2, 3, 11, 8, []uint64{0, 1, 3}, []uint64{1, 8, 6}},
		{"the longest last", [][]uint64{{6}, {4, 5}, {1, 2, 3}}, 2, 3, 11, 4, []uint64{7, 7, 1}, []uint64{6, 8, 1}},
		{"the longest between", [][]uint64{{6}, {1, 2, 3}, {4, 5}}, 2, 3, 11, 7, []uint64{2, 2, 6}, []uint64{6, 1, 8}},
		{"nil beside one that is not", [][]uint64{nil, {1, 2}}, 2, 3, 11, 3, []uint64{2, 4}, []uint64{0, 7}},
		{"one that is not beside nil", [][]uint64{{1, 2}, nil}, 2, 3, 11, 7, []uint64{1, 2}, []uint64{7, 0}},
		{"nil and empty between", [][]uint64{{1}, nil, {}, {0, 2}}, 2, 3, 11, 5, []uint64{1, 5}, []uint64{1, 0, 0, 6}},
		{"trailing 0s stay", [][]uint64{{1, 0}, {0, 0, 11}, {0}}, 2, 3, 11, 1, []uint64{1, 0, 0}, []uint64{1, 0, 0}},
		{"at 0, 0", [][]uint64{{9, 2}, {3, 4}}, 0, 0, 11, 9, []uint64{9, 2}, []uint64{9, 3}},
		{"at q, q", [][]uint64{{9, 2}, {3, 4}}, 11, 22, 11, 9, []uint64{9, 2}, []uint64{9, 3}},
		{"at 1, 1", [][]uint64{{9, 2}, {3, 4}}, 1, 1, 11, 7, []uint64{1, 6}, []uint64{0, 7}},
		{"x is not y", [][]uint64{{0, 1}}, 3, 4, 11, 4, []uint64{0, 1}, []uint64{4}},
		{"y is not x", [][]uint64{nil, {1}}, 3, 4, 11, 3, []uint64{3}, []uint64{0, 1}},
		{"coefficients from q on", [][]uint64{{12, 13}, {25, 37}}, 2, 5, 11, 2, []uint64{7, 10}, []uint64{0, 1}},
		{"places from q on", [][]uint64{{1, 2}, {3, 4}}, 24, 49, 11, 2, []uint64{7, 10}, []uint64{0, 1}},
		{"one coefficient from q on", [][]uint64{{25}}, 0, 0, 11, 3, []uint64{3}, []uint64{3}},
		{"modulo 1", [][]uint64{{1, 2}, {3}}, 2, 5, 1, 0, []uint64{0, 0}, []uint64{0, 0}},
		{"modulo 2", [][]uint64{{1, 1}, {1, 0}}, 1, 1, 2, 1, []uint64{0, 1}, []uint64{0, 1}},
		{"modulo 12, no prime", [][]uint64{{1, 2}, {3, 4}}, 6, 9, 12, 1, []uint64{7, 2}, []uint64{7, 3}},
		{"modulo MaxP", [][]uint64{{math.MaxUint64, api.MaxP}, {api.MaxP - 1, 1}}, 2, 2, api.MaxP, 1, []uint64{api.MaxP - 3, 2}, []uint64{api.MaxP - 1, 1}},
		{"modulo a great prime", [][]uint64{{great, mersenne}, {mersenne - 1, great}}, mersenne - 1, great, mersenne, mersenne - 41, []uint64{8, mersenne - 7}, []uint64{7, 48}},
	} {
		if v := bivar.At(c.f, c.x, c.y, c.q); v != c.at || v != valueOf(c.f, c.x, c.y, c.q) {
			t.Errorf("%s: At is %d, not %d", c.what, v, c.at)
		}
		if row := bivar.Row(c.f, c.x, c.q); !slices.Equal(row, c.row) {
			t.Errorf("%s: Row is %v, not %v", c.what, row, c.row)
		}
		if column := bivar.Col(c.f, c.y, c.q); !slices.Equal(column, c.col) {
			t.Errorf("%s: Col is %v, not %v", c.what, column, c.col)
		}
	}
}

// TestP61Definition: anything modulo anything, held against the definition.
func TestP61Definition(t *testing.T) {
	visitAny(61, moduli, 150, func(r *rand.Rand, f [][]uint64, x, y, q uint64) {
		if v, want := bivar.At(f, x, y, q), valueOf(f, x, y, q); v != want {
			t.Fatalf("At(%v, %d, %d, %d) is %d, not %d", f, x, y, q, v, want)
		}
		if row, want := bivar.Row(f, x, q), rowOf(f, x, q); !slices.Equal(row, want) {
			t.Fatalf("Row(%v, %d, %d) is %v, not %v", f, x, q, row, want)
		}
		if column, want := bivar.Col(f, y, q), colOf(f, y, q); !slices.Equal(column, want) {
			t.Fatalf("Col(%v, %d, %d) is %v, not %v", f, y, q, column, want)
		}
	})
}

// TestP61NoModulus: where q is 0 or above MaxP all numbers are 0, but there are as many as always.
func TestP61NoModulus(t *testing.T) {
	for _, f := range [][][]uint64{nil, {}, {nil}, {{}, nil}, {{5}}, {{1, 2}, {3, 4}}, {{1, 2, 3}, nil, {4}}, {{1}, {2, 3}}, {{1}, {2, 3, 4}, {5, 6}}} {
		for _, q := range wrong {
			for _, x := range []uint64{0, 1, 2, q, math.MaxUint64} {
				if v := bivar.At(f, x, 1, q) + bivar.At(f, 1, x, q); v != 0 {
					t.Errorf("At(%v, %d and 1, %d): %d", f, x, q, v)
				}
				if row := bivar.Row(f, x, q); !slices.Equal(row, make([]uint64, widthOf(f))) {
					t.Errorf("Row(%v, %d, %d): %v", f, x, q, row)
				}
				if column := bivar.Col(f, x, q); !slices.Equal(column, make([]uint64, len(f))) {
					t.Errorf("Col(%v, %d, %d): %v", f, x, q, column)
				}
			}
		}
	}
}

// TestP61Many: a long list among very many that are empty: what is missing costs nothing.
func TestP61Many(t *testing.T) {
	const many, long = 1 << 17, 1 << 17
	for _, place := range []int{0, 1, many / 2, many - 1} {
		f := make([][]uint64, many)
		f[place] = make([]uint64, long)
		f[place][0], f[place][long-1] = 3, 4
		for _, q := range []uint64{11, mersenne} {
			power := powerOf(2, place, q)
			row := bivar.Row(f, 2, q)
			first, last := bigMod(new(big.Int).Mul(power, big.NewInt(3)), q), bigMod(new(big.Int).Mul(power, big.NewInt(4)), q)
			if len(row) != long || row[0] != first || row[long-1] != last || row[1] != 0 {
				t.Errorf("Row with the list %d: %d coefficients, %d first, %d last", place, len(row), row[0], row[long-1])
			}
			column := bivar.Col(f, 1, q)
			if len(column) != many || column[place] != 7 || column[(place+1)%many] != 0 {
				t.Errorf("Col with the list %d: %d coefficients, there %d", place, len(column), column[place])
			}
			if v := bivar.At(f, 2, 1, q); v != bigMod(new(big.Int).Mul(power, big.NewInt(7)), q) {
				t.Errorf("At with the list %d: %d", place, v)
			}
		}
	}
}

func TestP62Edges(t *testing.T) {
	for _, c := range []struct {
		what string
		xs   []uint64
		rows [][]uint64
		q    uint64
		want [][]uint64
	}{
		{"no points", nil, nil, 11, nil},
		{"no points", []uint64{}, [][]uint64{}, 1, nil},
		{"no points modulo MaxP", nil, [][]uint64{}, api.MaxP, nil},
		{"one point", []uint64{5}, [][]uint64{{3, 4}}, 11, [][]uint64{{3, 4}}},
		{"one point at 0", []uint64{0}, [][]uint64{{3}}, 11, [][]uint64{{3}}},
		{"one point, an empty row", []uint64{5}, [][]uint64{{}}, 11, [][]uint64{{}}},
		{"one point, a row that is nil", []uint64{5}, [][]uint64{nil}, 11, [][]uint64{{}}},
		{"one point modulo 1", []uint64{5}, [][]uint64{{3, 4}}, 1, [][]uint64{{0, 0}}},
		{"one point modulo 1, an empty row", []uint64{5}, [][]uint64{{}}, 1, [][]uint64{{}}},
		{"one point modulo MaxP", []uint64{5}, [][]uint64{{3, api.MaxP + 4}}, api.MaxP, [][]uint64{{3, 4}}},
		{"all rows empty", []uint64{1, 2, 3}, [][]uint64{nil, {}, nil}, 11, [][]uint64{{}, {}, {}}},
		{"a row that is nil", []uint64{0, 1}, [][]uint64{nil, {3, 4}}, 11, [][]uint64{{0, 0}, {3, 4}}},
		{"a row that is nil, the last", []uint64{0, 1}, [][]uint64{{3, 4}, nil}, 11, [][]uint64{{3, 4}, {8, 7}}},
		{"only the last has a coefficient", []uint64{0, 1}, [][]uint64{{}, {5}}, 11, [][]uint64{{0}, {5}}},
		{"only the first has a coefficient", []uint64{0, 1}, [][]uint64{{5}, nil}, 11, [][]uint64{{5}, {6}}},
		{"the longest first", []uint64{0, 1, 2}, [][]uint64{{1, 2, 3}, {4}, {7, 0}}, 11, [][]uint64{{1, 2, 3}, {3, 8, 1}, {0, 1, 7}}},
		{"the longest between", []uint64{0, 1, 2}, [][]uint64{{4}, {1, 2, 3}, {7, 0}}, 11, [][]uint64{{4, 0, 0}, {9, 4, 6}, {10, 9, 8}}},
		{"the longest last", []uint64{0, 1, 2}, [][]uint64{{4}, {7, 0}, {1, 2, 3}}, 11, [][]uint64{{4, 0, 0}, {2, 10, 4}, {1, 1, 7}}},
		{"points from q on", []uint64{12, 24}, [][]uint64{{4, 6}, {7, 10}}, 11, [][]uint64{{1, 2}, {3, 4}}},
		{"q as a point", []uint64{11, 1}, [][]uint64{{4, 6}, {7, 10}}, 11, [][]uint64{{4, 6}, {3, 4}}},
		{"coefficients from q on", []uint64{1, 2}, [][]uint64{{15, 28}, {40, 21}}, 11, [][]uint64{{1, 2}, {3, 4}}},
		{"another order", []uint64{2, 1}, [][]uint64{{7, 10}, {4, 6}}, 11, [][]uint64{{1, 2}, {3, 4}}},
		{"the same rows", []uint64{3, 1, 2}, [][]uint64{{7, 10}, {7, 10}, {7, 10}}, 11, [][]uint64{{7, 10}, {0, 0}, {0, 0}}},
		{"rows of 0s", []uint64{3, 1}, [][]uint64{{0, 11}, {22, 0, 0}}, 11, [][]uint64{{0, 0, 0}, {0, 0, 0}}},
		{"no prime, a difference of 1", []uint64{1, 2}, [][]uint64{{4, 6}, {7, 10}}, 12, [][]uint64{{1, 2}, {3, 4}}},
		{"no prime, a difference of 5", []uint64{0, 5}, [][]uint64{{1}, {2, 3}}, 12, [][]uint64{{1, 0}, {5, 3}}},
		{"modulo MaxP", []uint64{1, 2}, [][]uint64{{4, 6}, {7, 5}}, api.MaxP, [][]uint64{{1, 7}, {3, api.MaxP - 1}}},
		{"modulo 2", []uint64{1, 0}, [][]uint64{{1, 0}, {1, 1}}, 2, [][]uint64{{1, 1}, {0, 1}}},
		{"modulo 3, all points", []uint64{2, 1, 0}, [][]uint64{{1}, {1, 2}, {1, 0}}, 3, [][]uint64{{1, 0}, {0, 1}, {0, 1}}},
		{"modulo a great prime", []uint64{1, mersenne - 1}, [][]uint64{{5}, {1, 2}}, mersenne, [][]uint64{{3, 1}, {2, mersenne - 1}}},
	} {
		got := through(c.xs, c.rows, c.q)
		if got.e != api.OK || !sameLists(got.f, c.want) {
			t.Errorf("%s: Through(%v, %v, %d) is %v, not %v", c.what, c.xs, c.rows, c.q, got, c.want)
		}
	}
}

// errorCases are points, the number of rows, and the error: each by itself, and before those that are after it.
func errorCases() []errorCase {
	many := make([]uint64, api.MaxNums+1)
	for i := range many {
		many[i] = uint64(2 * i)
	}
	zeros := make([]uint64, api.MaxNums+1)
	return []errorCase{
		{"q 0", []uint64{1, 2}, 2, 0, api.ErrArg},
		{"q 0, no points", nil, 0, 0, api.ErrArg},
		{"q above MaxP", []uint64{1, 2}, 2, api.MaxP + 1, api.ErrArg},
		{"q above MaxP, no points", nil, 0, api.MaxP + 1, api.ErrArg},
		{"q a prime above MaxP", []uint64{1, 2}, 2, 2305843009213693967, api.ErrArg},
		{"q MaxP", []uint64{1, 2}, 2, api.MaxP, api.OK},
		{"q MaxP, an even difference", []uint64{1, 3}, 2, api.MaxP, api.ErrNone},
		{"q 1, no points", nil, 0, 1, api.OK},
		{"q 1, one point", []uint64{7}, 1, 1, api.OK},
		{"q 1, two points", []uint64{7, 8}, 2, 1, api.ErrTwice},
		{"no points", nil, 0, 11, api.OK},
		{"one row less", []uint64{1, 2, 3}, 2, 11, api.ErrArg},
		{"one row more", []uint64{1, 2, 3}, 4, 11, api.ErrArg},
		{"no rows", []uint64{1}, 0, 11, api.ErrArg},
		{"no points, a row", nil, 1, 11, api.ErrArg},
		{"no points, many rows", nil, api.MaxNums + 1, 11, api.ErrArg},
		{"one more than MaxNums", many, api.MaxNums + 1, mersenne, api.ErrTooLarge},
		{"the same two", []uint64{1, 5, 2, 5}, 4, 11, api.ErrTwice},
		{"the same two modulo q", []uint64{16, 1, 2, 5}, 4, 11, api.ErrTwice},
		{"the first and the last", []uint64{3, 1, 2, 14}, 4, 11, api.ErrTwice},
		{"0 and q", []uint64{0, mersenne}, 2, mersenne, api.ErrTwice},
		{"more than there are modulo 2", []uint64{0, 1, 2}, 3, 2, api.ErrTwice},
		{"a difference of 2 modulo 6", []uint64{1, 3}, 2, 6, api.ErrNone},
		{"a difference of 3 modulo 6", []uint64{0, 1, 3}, 3, 6, api.ErrNone},
		{"a difference of 5 modulo 6", []uint64{6, 5}, 2, 6, api.OK},
		{"q no modulus, and one row less", []uint64{1, 2}, 1, 0, api.ErrArg},
		{"q no modulus, and too many", many, api.MaxNums + 1, 0, api.ErrArg},
		{"q no modulus, and the same two", []uint64{1, 1}, 2, api.MaxP + 1, api.ErrArg},
		{"one row less, and too many points", many, api.MaxNums, mersenne, api.ErrArg},
		{"one row more, and too many rows", many[:api.MaxNums], api.MaxNums + 1, mersenne, api.ErrArg},
		{"one row less, and the same two", []uint64{1, 2, 1}, 2, 11, api.ErrArg},
		{"one row more, and a difference of 2", []uint64{1, 3}, 3, 6, api.ErrArg},
		{"too many, and the same two", zeros, api.MaxNums + 1, mersenne, api.ErrTooLarge},
		{"too many, and even differences", many, api.MaxNums + 1, api.MaxP, api.ErrTooLarge},
		{"the same two, and a difference of 2", []uint64{1, 3, 4, 4}, 4, 6, api.ErrTwice},
		{"a difference of 2, and the same two", []uint64{4, 10, 1, 3}, 4, 6, api.ErrTwice},
	}
}

type errorCase struct {
	what string
	xs   []uint64
	rows int
	q    uint64
	want api.Errno
}

// TestP62Errors: whatever the rows have, the error is that of the points.
func TestP62Errors(t *testing.T) {
	r := rand.New(rand.NewSource(620))
	for _, c := range errorCases() {
		if e := errorOf(c.xs, c.rows, c.q); e != c.want {
			t.Fatalf("%s: by the definition error %d", c.what, e)
		}
		if _, e := poly.Through(c.xs, make([]uint64, c.rows), c.q); e != c.want {
			t.Fatalf("%s: poly.Through has error %d", c.what, e)
		}
		empty, ones, firsts := make([][]uint64, c.rows), make([][]uint64, c.rows), make([][]uint64, c.rows)
		for i := range ones {
			ones[i] = []uint64{7}
			if i%2 == 1 {
				firsts[i] = []uint64{3, 1, 2}
			}
		}
		for _, rows := range [][][]uint64{empty, ones, firsts, anyLists(r, c.rows, 11)} {
			got := through(c.xs, rows, c.q)
			if got.e != c.want || got.e != api.OK && got.f != nil || got.e == api.OK && len(got.f) != c.rows {
				t.Errorf("%s: Through is %v, not error %d", c.what, got, c.want)
			}
		}
	}
}

// TestP62Reference: any points and rows modulo anything, held against the definition.
func TestP62Reference(t *testing.T) {
	r := rand.New(rand.NewSource(62))
	seen := map[api.Errno]int{}
	for _, q := range append(slices.Clone(wrong), append(slices.Clone(moduli), moduli...)...) {
		like := q // numbers are made as for this
		if slices.Contains(wrong, q) {
			like = 11
		}
		for range 120 {
			n := r.Intn(6)
			xs := anyNumbers(r, n, like)
			if r.Intn(3) > 0 {
				xs = anyPoints(r, n, like)
			}
			rows := anyLists(r, len(xs), like)
			if r.Intn(9) == 0 {
				rows = append(rows, anyNumbers(r, r.Intn(3), like))
			}
			got, want := through(xs, rows, q), errorOf(xs, len(rows), q)
			if seen[want]++; got.e != want || want != api.OK && got.f != nil {
				t.Fatalf("Through(%v, %v, %d) is %v, not error %d", xs, rows, q, got, want)
			}
			if want == api.OK {
				checkThrough(t, xs, rows, q, got.f)
			}
		}
	}
	for _, e := range []api.Errno{api.OK, api.ErrArg, api.ErrTwice, api.ErrNone} {
		if seen[e] < 200 {
			t.Error("not of all kinds:", seen)
		}
	}
}

// checkThrough fails where a polynomial is not the one through rows, by the definition.
func checkThrough(t *testing.T, xs []uint64, rows [][]uint64, q uint64, f [][]uint64) {
	t.Helper()
	if len(f) != len(xs) {
		t.Fatalf("Through(%v, %v, %d) has %d lists", xs, rows, q, len(f))
	}
	for _, list := range f {
		if len(list) != widthOf(rows) || slices.ContainsFunc(list, func(c uint64) bool { return c >= q }) {
			t.Fatalf("Through(%v, %v, %d) has the list %v", xs, rows, q, list)
		}
	}
	for i, row := range padded(rows, q) {
		if got := rowOf(f, xs[i], q); !slices.Equal(got, row) {
			t.Fatalf("Through(%v, %v, %d) is %v, whose row at %d is %v", xs, rows, q, f, xs[i], got)
		}
	}
}

// every returns all polynomials of so many lists of so many coefficients modulo q.
func every(lists, width int, q uint64) [][][]uint64 {
	all := [][][]uint64{make([][]uint64, lists)}
	for place := range lists * width {
		var more [][][]uint64
		for _, f := range all {
			for c := range q {
				g := cloned(f)
				g[place/width] = append(g[place/width], c)
				more = append(more, g)
			}
		}
		all = more
	}
	return all
}

// TestP62Only: of all polynomials with as many lists one has the given rows, and that is the answer.
func TestP62Only(t *testing.T) {
	for _, c := range []struct {
		xs    []uint64
		width int
		q     uint64
	}{
		{[]uint64{1}, 2, 2}, {[]uint64{1, 0}, 1, 2}, {[]uint64{0, 3}, 2, 2}, {[]uint64{1, 2}, 3, 2},
		{[]uint64{2}, 3, 3}, {[]uint64{5, 0}, 2, 3}, {[]uint64{2, 0, 1}, 1, 3}, {[]uint64{4, 7}, 1, 5},
		{[]uint64{5, 0}, 1, 6}, {[]uint64{1, 2}, 2, 4}, // no primes
	} {
		all := every(len(c.xs), c.width, c.q)
		seen := map[string]int{}
		for _, f := range all {
			var rows [][]uint64
			var key []byte
			for _, x := range c.xs {
				rows = append(rows, rowOf(f, x, c.q))
				for _, k := range rows[len(rows)-1] {
					key = append(key, byte(k))
				}
			}
			if seen[string(key)]++; seen[string(key)] > 1 {
				t.Fatal("two polynomials have the rows", rows)
			}
			if got := fine(t, c.xs, rows, c.q); !sameLists(got, f) {
				t.Fatalf("Through(%v, %v, %d) is %v, not %v", c.xs, rows, c.q, got, f)
			}
		}
		if len(seen) != len(all) {
			t.Fatal(len(seen), "of", len(all))
		}
	}
}

// TestP62Most: as many points as MaxNums, and very long rows.
func TestP62Most(t *testing.T) {
	r := rand.New(rand.NewSource(622))
	const q = mersenne
	xs := anyPoints(r, api.MaxNums, q)
	rows := make([][]uint64, api.MaxNums)
	for i, x := range xs {
		// The rows of 3 + x (4 + 5 y) + 6 x^1023 y^2, the last two of them cut short.
		x3 := powerOf(x, api.MaxNums-1, q).Uint64()
		rows[i] = bivar.Row([][]uint64{{3}, {4, 5}}, x, q)
		rows[i] = append(rows[i], bivar.Col([][]uint64{{0, 6}}, x3, q)[0])
	}
	f := fine(t, xs, rows, q)
	want := make([][]uint64, api.MaxNums)
	want[0], want[1], want[api.MaxNums-1] = []uint64{3}, []uint64{4, 5}, []uint64{0, 0, 6}
	if !sameLists(f, padded(want, q)) {
		t.Error("Through MaxNums rows: another polynomial")
	}
	const long = 1 << 14
	xs, rows = []uint64{5, 0, 2}, [][]uint64{anyNumbers(r, 7, q), anyNumbers(r, long, q), nil}
	f = fine(t, xs, rows, q)
	for i, row := range padded(rows, q) {
		if !slices.Equal(bivar.Row(f, xs[i], q), row) {
			t.Error("Through long rows: another row at", xs[i])
		}
	}
	for i := range f {
		if len(f[i]) != long {
			t.Error("Through long rows: a list of", len(f[i]))
		}
	}
}

func TestP63Crossing(t *testing.T) {
	visitAny(63, moduli, 200, func(r *rand.Rand, f [][]uint64, x, y, q uint64) {
		row, column := bivar.Row(f, x, q), bivar.Col(f, y, q)
		v, ofRow, ofColumn := bivar.At(f, x, y, q), poly.Eval(row, y, q), poly.Eval(column, x, q)
		if v != ofRow || v != ofColumn || v != valueOf(f, x, y, q) {
			t.Fatalf("%v modulo %d at %d, %d: %d, by the row %d, by the column %d", f, q, x, y, v, ofRow, ofColumn)
		}
	})
}

func TestP64Back(t *testing.T) {
	visitAny(64, primes, 200, func(r *rand.Rand, f [][]uint64, x, y, q uint64) {
		// The result has the given rows.
		xs := anyPoints(r, len(f), q)
		rows := f[:len(xs)]
		g := fine(t, xs, rows, q)
		for i, row := range padded(rows, q) {
			if got := bivar.Row(g, xs[i], q); !slices.Equal(got, row) {
				t.Fatalf("Through(%v, %v, %d) is %v, whose row at %d is %v", xs, rows, q, g, xs[i], got)
			}
		}
		// A polynomial is recovered from as many of its own rows as it has lists.
		own := make([][]uint64, len(xs))
		for i, x := range xs {
			own[i] = bivar.Row(rows, x, q)
			for j := range own[i] {
				own[i][j] = lift(r, own[i][j], q)
			}
		}
		if got := fine(t, xs, own, q); !sameLists(got, padded(rows, q)) {
			t.Fatalf("%v modulo %d from its rows at %v: %v", rows, q, xs, got)
		}
	})
}

func TestP65ThroughColumns(t *testing.T) {
	recovered := 0
	visitAny(65, primes, 200, func(r *rand.Rand, f [][]uint64, x, y, q uint64) {
		row := bivar.Row(f, x, q)
		ys := anyPoints(r, len(row), q)
		if len(ys) < len(row) { // there are no more modulo q
			return
		}
		values := make([]uint64, len(ys))
		for i, y := range ys {
			values[i] = lift(r, poly.Eval(bivar.Col(f, y, q), x, q), q)
		}
		got, e := poly.Through(ys, values, q)
		if e != api.OK || !slices.Equal(got, row) || !slices.Equal(got, rowOf(f, x, q)) {
			t.Fatalf("the row of %v modulo %d at %d: %v, by columns at %v %v, error %d", f, q, x, row, ys, got, e)
		}
		recovered++
	})
	if recovered < 1500 {
		t.Error("only", recovered, "recovered")
	}
}

// TestP66HidingAll: by small primes, all polynomials: whatever rows and columns are seen, each value at (0, 0) is had by as many of them.
func TestP66HidingAll(t *testing.T) {
	for _, c := range []struct {
		xs, ys []uint64
		q      uint64
	}{
		{nil, nil, 7}, {[]uint64{1}, []uint64{1}, 2}, {[]uint64{1}, []uint64{5}, 3}, {[]uint64{3}, []uint64{2}, 5}, {[]uint64{1, 2}, []uint64{1, 2}, 3},
	} {
		n := len(c.xs) + 1
		seen := map[string][]int{}
		for _, f := range every(n, n, c.q) {
			var key []byte
			for i := range c.xs {
				for _, k := range slices.Concat(bivar.Row(f, c.xs[i], c.q), bivar.Col(f, c.ys[i], c.q)) {
					key = append(key, byte(k))
				}
			}
			if seen[string(key)] == nil {
				seen[string(key)] = make([]int, c.q)
			}
			seen[string(key)][bivar.At(f, 0, 0, c.q)]++
		}
		for key, counts := range seen {
			if slices.Min(counts) != 1 || slices.Max(counts) != 1 {
				t.Fatalf("rows and columns %v modulo %d: of the values at (0, 0) there are %v", []byte(key), c.q, counts)
			}
		}
	}
}

// TestP66HidingOther: for every other value the polynomial that has the same rows and columns is made, and looked at.
func TestP66HidingOther(t *testing.T) {
	r := rand.New(rand.NewSource(66))
	for _, q := range primes {
		for threshold := range 5 {
			for range 20 {
				// With 0 before all others, so that none of them is 0.
				xs, ys := nonzero(r, threshold, q), nonzero(r, threshold, q)
				if len(xs) < threshold {
					continue
				}
				f := make([][]uint64, threshold+1)
				for i := range f {
					f[i] = anyNumbers(r, threshold+1, q)
				}
				value := bivar.At(f, 0, 0, q)
				other := lift(r, r.Uint64(), q)
				g := moved(f, xs, ys, bigMod(new(big.Int).Sub(bigOf(other), bigOf(value)), q), q)
				if bivar.At(g, 0, 0, q) != other%q {
					t.Fatalf("%v modulo %d: %d at (0, 0), not %d", g, q, bivar.At(g, 0, 0, q), other)
				}
				for i := range xs {
					if !slices.Equal(bivar.Row(g, xs[i], q), bivar.Row(f, xs[i], q)) || !slices.Equal(bivar.Col(g, ys[i], q), bivar.Col(f, ys[i], q)) {
						t.Fatalf("%v and %v modulo %d: not the same at %d and %d", f, g, q, xs[i], ys[i])
					}
				}
			}
		}
	}
}

// nonzero returns so many different points that are not 0 modulo q, or all of them.
func nonzero(r *rand.Rand, n int, q uint64) []uint64 {
	xs := anyPoints(r, n+1, q)
	xs = slices.DeleteFunc(xs, func(x uint64) bool { return x%q == 0 })
	return xs[:min(n, len(xs))]
}

// moved returns a polynomial whose value at (0, 0) is greater by so much, with the same rows at xs and columns at ys.
func moved(f [][]uint64, xs, ys []uint64, by, q uint64) [][]uint64 {
	product := func(points []uint64) []uint64 { // 1 at 0, and 0 at the points
		c := []uint64{1}
		for _, x := range points {
			c = poly.Times(c, []uint64{1, bigMod(new(big.Int).Neg(new(big.Int).ModInverse(bigOf(x), bigOf(q))), q)}, q)
		}
		return c
	}
	g := cloned(f)
	for i, a := range product(xs) {
		g[i] = poly.Sum(g[i], poly.Scale(poly.Scale(product(ys), a, q), by, q), q)
	}
	return g
}

// spoil writes over all that an answer has, also beyond the ends of its lists.
func spoil(list []uint64) {
	for i := range list[:cap(list)] {
		list[:cap(list)][i] = 99
	}
}

// TestR1: nothing that is handed in is changed, and no answer shares memory with it, nor any two lists of one answer.
func TestR1(t *testing.T) {
	const q = 11
	back := []uint64{25, 3, 14, 11, 16, 40, 9, 22, 7, 8} // with numbers beyond the ends of all lists
	lists := [][]uint64{back[:3], nil, {}, back[3:5], back[5:9], {77}}
	f, xs := lists[:5], back[4:9]
	keptBack, keptLists := slices.Clone(back), cloned(lists)
	check := func(what string) {
		t.Helper()
		if !slices.Equal(back, keptBack) || !sameLists(lists, keptLists) || lists[1] != nil || lists[2] == nil {
			t.Fatalf("%s changed %v and %v", what, back, lists)
		}
	}
	for _, modulus := range []uint64{0, 1, 6, q, mersenne, api.MaxP, api.MaxP + 1} {
		bivar.At(f, 13, 25, modulus)
		check("At")
		row, column := bivar.Row(f, 1, modulus), bivar.Col(f, 1, modulus)
		row0, column0 := bivar.Row(f[:1], 0, modulus), bivar.Col(f[3:4], 0, modulus)
		check("Row or Col")
		for _, answer := range [][]uint64{row, column, row0, column0} {
			spoil(answer)
		}
		check("writing into the answers of Row and Col")
		bivar.Through(xs, f, modulus)
		bivar.Through(xs[:2], f, modulus)
		check("Through")
	}
	for _, points := range [][]uint64{{14, 2, 30, 0, 4}, {14, 2, 30, 0, 4, 5}} {
		rows := append(slices.Clone(f), back[1:3])[:len(points)]
		kept := slices.Clone(points)
		answer, again := fine(t, points, rows, q), fine(t, points, rows, q)
		for i := range answer {
			spoil(answer[i])
			for j := range answer {
				if j > i && slices.Contains(answer[j], 99) {
					t.Error("writing into a list of an answer changed another one")
				}
			}
		}
		answer = append(answer, nil)
		check("writing into the answer of Through")
		if !slices.Equal(points, kept) || !sameLists(again, fine(t, points, rows, q)) {
			t.Error("writing into an answer changed another one, or the points")
		}
	}
}

// TestR1Places: rows at 0, through one point, and those of one number are made anew too.
func TestR1Places(t *testing.T) {
	const q = 11
	one := [][]uint64{{7, 8, 9}}
	for _, answer := range [][]uint64{bivar.Row(one, 0, q), bivar.Row(one, 5, q), fine(t, []uint64{4}, one, q)[0], fine(t, one[0], [][]uint64{one[0], one[0], one[0]}, q)[0]} {
		if !slices.Equal(answer, one[0]) {
			t.Fatal("not the same row:", answer)
		}
		spoil(answer)
		if !slices.Equal(one[0], []uint64{7, 8, 9}) {
			t.Fatal("writing into an answer changed", one[0])
		}
	}
	// The same list handed in several times, as points and as rows.
	if f := fine(t, one[0], [][]uint64{one[0], one[0], one[0]}, q); !sameLists(f, [][]uint64{{7, 8, 9}, {0, 0, 0}, {0, 0, 0}}) {
		t.Error("the same list as points and rows:", f)
	}
	if !slices.Equal(bivar.Row(nil, 1, q), bivar.Row([][]uint64{}, 1, q)) || !slices.Equal(bivar.Col(nil, 1, q), bivar.Col([][]uint64{}, 1, q)) || bivar.At(nil, 1, 1, q) != bivar.At([][]uint64{}, 1, 1, q) {
		t.Error("no list is not the same as an empty one")
	}
	none, empty := through(nil, nil, q), through([]uint64{}, [][]uint64{}, q)
	if none.e != api.OK || empty.e != api.OK || len(none.f)+len(empty.f) != 0 {
		t.Error("no list is not the same as an empty one:", none, empty)
	}
	if a, b := fine(t, []uint64{1, 2}, [][]uint64{nil, {3}}, q), fine(t, []uint64{1, 2}, [][]uint64{{}, {3}}, q); !sameLists(a, b) {
		t.Error("a row that is nil is not the same as an empty one:", a, b)
	}
}
