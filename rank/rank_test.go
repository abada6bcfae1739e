package rank_test

import (
	"math"
	"math/big"
	"math/rand"
	"slices"
	"testing"

	"consistory/api"
	"consistory/rank"
)

const mersenne = 1<<61 - 1 // the greatest prime up to MaxP

// primes are the least one, small ones, and great ones.
var primes = []uint64{2, 3, 5, 7, 11, 1321, 8796095119369, 1152921504606845789, 2305843009213691579, mersenne}

// wrong are no primes, or above MaxP: the last four are primes above it.
var wrong = []uint64{0, 1, 4, 6, 9, 15, 561, 3215031751, 1 << 32, mersenne - 1, 1152921504606845789 - 1,
	api.MaxP, api.MaxP + 1, 1 << 62, math.MaxUint64, 2305843009213693967, 2305843009213699919, 1<<63 - 25, math.MaxUint64 - 58}

func bigOf(x uint64) *big.Int { return new(big.Int).SetUint64(x) }

// numberAt returns a number of a row modulo q, 0 beyond its end.
func numberAt(row []uint64, i int, q uint64) uint64 {
	if i >= len(row) {
		return 0
	}
	return row[i] % q
}

func widthOf(rows [][]uint64) int {
	width := 0
	for _, row := range rows {
		width = max(width, len(row))
	}
	return width
}

func cloneOf(rows [][]uint64) [][]uint64 {
	var l [][]uint64
	for _, row := range rows {
		l = append(l, slices.Clone(row))
	}
	return l
}

// with returns rows and further ones.
func with(rows [][]uint64, more ...[]uint64) [][]uint64 { return slices.Concat(rows, more) }

// columnsOf returns the columns, each as long as there are rows.
func columnsOf(rows [][]uint64, q uint64) [][]uint64 {
	columns := make([][]uint64, widthOf(rows))
	for j := range columns {
		for _, row := range rows {
			columns[j] = append(columns[j], numberAt(row, j, q))
		}
	}
	return columns
}

// anyRow returns a row at most as wide as width, with numbers modulo q and beyond it.
func anyRow(r *rand.Rand, width int, q uint64) []uint64 {
	row := make([]uint64, r.Intn(width+1))
	if r.Intn(3) > 0 {
		row = make([]uint64, width)
	}
	for i := range row {
		switch r.Intn(9) {
		case 0, 1:
			row[i] = 0
		case 2:
			row[i] = q
		case 3:
			row[i] = q - 1
		case 4:
			row[i] = math.MaxUint64 - uint64(r.Intn(3))
		case 5:
			row[i] = r.Uint64()
		case 6:
			row[i] = 1
		default:
			row[i] = r.Uint64() % q
		}
	}
	return row
}

// multiples returns a sum of any multiples of rows.
func multiples(r *rand.Rand, rows [][]uint64, q uint64) []uint64 {
	sum := make([]uint64, widthOf(rows))
	for _, row := range rows {
		sum = plus(sum, row, r.Uint64(), q)
	}
	return sum
}

// plus returns a row plus another one k times.
func plus(a, b []uint64, k, q uint64) []uint64 {
	sum := make([]uint64, max(len(a), len(b)))
	for i := range sum {
		z := new(big.Int).Mul(bigOf(k), bigOf(numberAt(b, i, q)))
		z.Add(z, bigOf(numberAt(a, i, q)))
		sum[i] = z.Mod(z, bigOf(q)).Uint64()
	}
	return sum
}

// anyRows returns rows of which some may depend on others.
func anyRows(r *rand.Rand, n, width int, q uint64) [][]uint64 {
	var rows [][]uint64
	for range n {
		switch r.Intn(8) {
		case 0:
			rows = append(rows, multiples(r, rows, q))
		case 1:
			rows = append(rows, make([]uint64, r.Intn(width+1)))
		case 2:
			rows = append(rows, nil)
		default:
			rows = append(rows, anyRow(r, width, q))
		}
	}
	return rows
}

// codeOf returns a row as a number of so many digits to the base q.
func codeOf(row []uint64, width int, q uint64) uint64 {
	code := uint64(0)
	for i := range width {
		code = code*q + numberAt(row, i, q)
	}
	return code
}

// depends reports by the definition whether a row depends on rows: all sums of multiples are gone through.
func depends(rows [][]uint64, row []uint64, q uint64) bool {
	width := max(widthOf(rows), len(row))
	sums := map[uint64][]uint64{0: make([]uint64, width)}
	for _, r := range rows {
		next := map[uint64][]uint64{}
		for _, s := range sums {
			for k := range q {
				l := make([]uint64, width)
				for i := range l {
					l[i] = (s[i] + k*numberAt(r, i, q)) % q
				}
				next[codeOf(l, width, q)] = l
			}
		}
		sums = next
	}
	return sums[codeOf(row, width, q)] != nil
}

// rankOf returns the rank by the definition: all sets of rows are gone through.
func rankOf(rows [][]uint64, q uint64) int {
	most := 0
	for set := range 1 << len(rows) {
		var these [][]uint64
		for i, row := range rows {
			if set>>i&1 == 1 {
				these = append(these, row)
			}
		}
		independent := true
		for i, row := range these {
			independent = independent && !depends(slices.Delete(slices.Clone(these), i, i+1), row, q)
		}
		if independent {
			most = max(most, len(these))
		}
	}
	return most
}

// solutionsOf returns by the definition all unknowns for which the equations hold, and of these the ones that are 0 wherever a column depends on those before it.
func solutionsOf(rows [][]uint64, right []uint64, q uint64) (all int, solutions [][]uint64) {
	width := widthOf(rows)
	columns := columnsOf(rows, q)
	unknowns := make([]uint64, width)
	count := uint64(1)
	for range width {
		count *= q
	}
	for code := range count {
		for j := range unknowns {
			unknowns[j] = code % q
			code /= q
		}
		if !holds(rows, right, unknowns, q) {
			continue
		}
		all++
		least := true
		for j, x := range unknowns {
			least = least && (x == 0 || !depends(columns[:j], columns[j], q))
		}
		if least {
			solutions = append(solutions, slices.Clone(unknowns))
		}
	}
	return all, solutions
}

// holds reports whether equations hold.
func holds(rows [][]uint64, right, unknowns []uint64, q uint64) bool {
	for i, row := range rows {
		sum := new(big.Int)
		for j, x := range row {
			sum.Add(sum, new(big.Int).Mul(bigOf(x), bigOf(unknowns[j])))
		}
		if sum.Mod(sum, bigOf(q)).Uint64() != numberAt(right, i, q) {
			return false
		}
	}
	return true
}

// determinant returns that of a square of numbers modulo q, by its first row.
func determinant(square [][]uint64, q uint64) *big.Int {
	if len(square) == 0 {
		return big.NewInt(1)
	}
	sum := new(big.Int)
	for j, x := range square[0] {
		var rest [][]uint64
		for _, row := range square[1:] {
			rest = append(rest, slices.Delete(slices.Clone(row), j, j+1))
		}
		z := new(big.Int).Mul(bigOf(x), determinant(rest, q))
		if j%2 == 1 {
			z.Neg(z)
		}
		sum.Add(sum, z)
	}
	return sum.Mod(sum, bigOf(q))
}

// rankByMinors returns the rank by another way: the size of the greatest square whose determinant is not 0.
func rankByMinors(rows [][]uint64, q uint64) int {
	width, most := widthOf(rows), 0
	for set := range 1 << len(rows) {
		for columns := range 1 << width {
			var square [][]uint64
			for i, row := range rows {
				if set>>i&1 == 0 {
					continue
				}
				var l []uint64
				for j := range width {
					if columns>>j&1 == 1 {
						l = append(l, numberAt(row, j, q))
					}
				}
				square = append(square, l)
			}
			if len(square) <= most || len(square[0]) != len(square) {
				continue
			}
			if determinant(square, q).Sign() != 0 {
				most = len(square)
			}
		}
	}
	return most
}

// solve returns the solution, and fails where there is an error.
func solve(t *testing.T, rows [][]uint64, right []uint64, q uint64) []uint64 {
	t.Helper()
	x, e := rank.Solve(rows, right, q)
	if e != api.OK {
		t.Fatalf("Solve(%v, %v, %d): error %d", rows, right, q, e)
	}
	return x
}

func TestExamples(t *testing.T) {
	rows := [][]uint64{{1, 2}, {2, 4}}
	if n := rank.Rank(rows, 7); n != 1 {
		t.Error("Rank of two:", n)
	}
	if n := rank.Rank(with(rows, []uint64{0, 1}), 7); n != 2 {
		t.Error("Rank of three:", n)
	}
	if !rank.Hangs([][]uint64{{1, 2}}, []uint64{3, 6}, 7) {
		t.Error("(3, 6) does not depend on (1, 2)")
	}
	if !rank.Hangs(nil, []uint64{0, 0}, 7) {
		t.Error("(0, 0) does not depend on none")
	}
	if rank.Hangs([][]uint64{{1, 2}}, []uint64{1}, 7) {
		t.Error("(1) depends on (1, 2)")
	}
	if x := solve(t, rows, []uint64{3, 6}, 7); !slices.Equal(x, []uint64{3, 0}) {
		t.Error("Solve of x + 2 y = 3, 2 x + 4 y = 6:", x)
	}
	if x, e := rank.Solve(rows, []uint64{3, 5}, 7); x != nil || e != api.ErrNone {
		t.Error("Solve of x + 2 y = 3, 2 x + 4 y = 5:", x, e)
	}
	if x := solve(t, [][]uint64{{0, 2}}, []uint64{3}, 7); !slices.Equal(x, []uint64{0, 5}) {
		t.Error("Solve of 2 y = 3:", x)
	}
	if x, e := rank.Solve(rows, []uint64{3, 6}, 6); x != nil || e != api.ErrArg {
		t.Error("Solve modulo 6:", x, e)
	}
}

func TestP41RankEdges(t *testing.T) {
	for _, c := range []struct {
		what string
		rows [][]uint64
		q    uint64
		want int
	}{
		{"no rows", nil, 7, 0},
		{"no rows", [][]uint64{}, 7, 0},
		{"a row of nothing", [][]uint64{{}}, 7, 0},
		{"rows of nothing", [][]uint64{nil, {}, nil}, 7, 0},
		{"a row of 0s alone", [][]uint64{{0, 0, 0}}, 7, 0},
		{"a row of numbers that are 0", [][]uint64{{7, 14, 0, 70}}, 7, 0},
		{"rows of 0s", [][]uint64{{0}, {0, 0}, {0, 0, 0}}, 7, 0},
		{"one row", [][]uint64{{0, 0, 3}}, 7, 1},
		{"one row, of a number from q on", [][]uint64{{7, 8}}, 7, 1},
		{"one row, of the greatest number", [][]uint64{{math.MaxUint64}}, mersenne, 1},
		{"a row twice", [][]uint64{{1, 2}, {1, 2}}, 7, 1},
		{"a row twice, q more", [][]uint64{{1, 2}, {8, 16}}, 7, 1},
		{"a row, and its multiple", [][]uint64{{3, 5, 1}, {6, 3, 2}}, 7, 1},
		{"a row, and almost its multiple", [][]uint64{{3, 5, 1}, {6, 3, 3}}, 7, 2},
		{"a row, and a part of it", [][]uint64{{1, 2}, {1}}, 7, 2},
		{"a part of a row, and it", [][]uint64{{1}, {1, 2}}, 7, 2},
		{"a row, and it padded", [][]uint64{{1, 2}, {1, 2, 0}, {1, 2, 7, 14}}, 7, 1},
		{"a row, and one of nothing", [][]uint64{{}, {1, 2}, nil}, 7, 1},
		{"a row that is 0, then others", [][]uint64{{0, 0}, {1, 2}, {0, 0}, {0, 1}}, 7, 2},
		{"from the last column on", [][]uint64{{0, 0, 1}, {0, 1, 1}, {1, 1, 1}}, 7, 3},
		{"the third is the sum", [][]uint64{{1, 2, 3}, {4, 5, 5}, {5, 0, 1}}, 7, 2},
		{"the sum is 0 modulo 2 alone", [][]uint64{{1, 1, 0}, {0, 1, 1}, {1, 0, 1}}, 2, 2},
		{"the sum is 0 modulo 2 alone", [][]uint64{{1, 1, 0}, {0, 1, 1}, {1, 0, 1}}, 3, 3},
		{"the determinant is 5", [][]uint64{{1, 2}, {3, 11}}, 5, 1},
		{"the determinant is 5", [][]uint64{{1, 2}, {3, 11}}, 7, 2},
		{"more rows than columns", [][]uint64{{1, 2}, {3, 4}, {5, 6}, {0, 1}, {6, 6}}, 7, 2},
		{"more columns than rows", [][]uint64{{0, 0, 1, 2, 3, 4}, {0, 0, 2, 4, 6, 2}}, 7, 2},
		{"more columns than rows, dependent", [][]uint64{{0, 0, 1, 2, 3, 4}, {0, 0, 2, 4, 6, 1}}, 7, 1},
		{"modulo the least prime", [][]uint64{{1, 2, 3}, {3, 5, 8}, {2, 4, 6}}, 2, 2},
		{"modulo a great prime", [][]uint64{{1, mersenne - 1}, {mersenne - 1, 1}}, mersenne, 1},
		{"modulo a great prime", [][]uint64{{1, mersenne - 1}, {mersenne - 1, 2}}, mersenne, 2},
	} {
		if n := rank.Rank(c.rows, c.q); n != c.want {
			t.Errorf("%s: Rank(%v, %d) is %d, not %d", c.what, c.rows, c.q, n, c.want)
		}
	}
}

func TestP41HangsEdges(t *testing.T) {
	for _, c := range []struct {
		what string
		rows [][]uint64
		row  []uint64
		q    uint64
		want bool
	}{
		{"nothing on no rows", nil, nil, 7, true},
		{"nothing on no rows", [][]uint64{}, []uint64{}, 7, true},
		{"nothing on rows of nothing", [][]uint64{{}, nil}, nil, 7, true},
		{"nothing on a row", [][]uint64{{1, 2}}, nil, 7, true},
		{"0s on no rows", nil, []uint64{0, 0, 0}, 7, true},
		{"numbers that are 0 on no rows", nil, []uint64{7, 0, 21}, 7, true},
		{"1 on no rows", nil, []uint64{1}, 7, false},
		{"the last is not 0, on no rows", nil, []uint64{0, 0, 1}, 7, false},
		{"1 on a row of nothing", [][]uint64{{}}, []uint64{1}, 7, false},
		{"1 on rows of 0s", [][]uint64{{0}, {7, 14}}, []uint64{1}, 7, false},
		{"0s on rows of 0s, wider", [][]uint64{{0}}, []uint64{0, 0, 7}, 7, true},
		{"wider than all rows, by 0s", [][]uint64{{1, 2}}, []uint64{3, 6, 0, 7}, 7, true},
		{"wider than all rows, by 1", [][]uint64{{1, 2}}, []uint64{3, 6, 0, 1}, 7, false},
		{"wider than all rows, which are all there is", [][]uint64{{1}, {0, 1}}, []uint64{3, 4, 5}, 7, false},
		{"narrower than a row", [][]uint64{{1, 2}}, []uint64{1}, 7, false},
		{"narrower than a row of 0s at its end", [][]uint64{{1, 0, 7}}, []uint64{5}, 7, true},
		{"narrower, but on two rows", [][]uint64{{1, 2}, {0, 3}}, []uint64{1}, 7, true},
		{"itself", [][]uint64{{1, 2}}, []uint64{1, 2}, 7, true},
		{"itself, q more", [][]uint64{{1, 2}}, []uint64{8, 9}, 7, true},
		{"rows q more", [][]uint64{{8, 9}}, []uint64{3, 6}, 7, true},
		{"almost a multiple", [][]uint64{{1, 2}}, []uint64{3, 5}, 7, false},
		{"a sum", [][]uint64{{1, 2, 3}, {0, 1, 4}}, []uint64{1, 3, 0}, 7, true},
		{"almost a sum", [][]uint64{{1, 2, 3}, {0, 1, 4}}, []uint64{1, 3, 1}, 7, false},
		{"a sum of rows that depend on one another", [][]uint64{{1, 2}, {2, 4}, {3, 6}}, []uint64{6, 5}, 7, true},
		{"not on rows that depend on one another", [][]uint64{{1, 2}, {2, 4}, {3, 6}}, []uint64{0, 1}, 7, false},
		{"the first of two", [][]uint64{{0, 1}, {1, 0}}, []uint64{5, 0}, 7, true},
		{"modulo 2 a sum", [][]uint64{{1, 1, 0}, {0, 1, 1}}, []uint64{1, 0, 1}, 2, true},
		{"modulo 3 none", [][]uint64{{1, 1, 0}, {0, 1, 1}}, []uint64{1, 0, 1}, 3, false},
		{"the greatest numbers", [][]uint64{{math.MaxUint64, math.MaxUint64}}, []uint64{1, 1}, mersenne, true},
	} {
		if got := rank.Hangs(c.rows, c.row, c.q); got != c.want {
			t.Errorf("%s: Hangs(%v, %v, %d) is %v", c.what, c.rows, c.row, c.q, got)
		}
	}
}

// TestP41NoPrime: what is no prime, or above MaxP.
func TestP41NoPrime(t *testing.T) {
	for _, q := range wrong {
		for _, rows := range [][][]uint64{nil, {{}}, {{0, 0}}, {{1, 2}, {3, 5}}, {{1}, {1}}} {
			if n := rank.Rank(rows, q); n != 0 {
				t.Errorf("Rank(%v, %d): %d", rows, q, n)
			}
			for _, row := range [][]uint64{nil, {0, 0}, {1, 2}, {q, q}} {
				if rank.Hangs(rows, row, q) {
					t.Errorf("Hangs(%v, %v, %d): true", rows, row, q)
				}
			}
		}
	}
	for _, q := range primes {
		if n := rank.Rank([][]uint64{{1, 2}, {3, 5}}, q); n != 2 {
			t.Errorf("Rank modulo %d: %d", q, n)
		}
		if !rank.Hangs(nil, nil, q) || !rank.Hangs([][]uint64{{1, 2}, {3, 5}}, []uint64{1, 1}, q) {
			t.Errorf("Hangs modulo %d: false", q)
		}
	}
}

// TestP41Definition: rows modulo small primes, held against the definition.
func TestP41Definition(t *testing.T) {
	r := rand.New(rand.NewSource(41))
	hang := 0
	for _, q := range []uint64{2, 3, 5} {
		for range 250 {
			rows := anyRows(r, r.Intn(5), r.Intn(4), q)
			if n, want := rank.Rank(rows, q), rankOf(rows, q); n != want {
				t.Fatalf("Rank(%v, %d): %d, not %d", rows, q, n, want)
			}
			row := anyRow(r, r.Intn(5), q)
			if r.Intn(2) == 0 {
				row = multiples(r, rows, q)
			}
			got, want := rank.Hangs(rows, row, q), depends(rows, row, q)
			if got != want {
				t.Fatalf("Hangs(%v, %v, %d): %v", rows, row, q, got)
			}
			if want {
				hang++
			}
		}
	}
	if hang < 200 || hang > 650 {
		t.Error(hang, "of 750 depend")
	}
}

// everyRows visits all so many rows of a width, modulo q.
func everyRows(n, width int, q uint64, visit func(rows [][]uint64)) {
	count := uint64(1)
	for range n * width {
		count *= q
	}
	for code := range count {
		rows := make([][]uint64, n)
		for i := range rows {
			rows[i] = make([]uint64, width)
			for j := range rows[i] {
				rows[i][j] = code % q
				code /= q
			}
		}
		visit(rows)
	}
}

// TestP41AllSmall: all rows of few numbers modulo the least primes.
func TestP41AllSmall(t *testing.T) {
	for _, c := range []struct {
		n, width int
		q        uint64
	}{{1, 3, 2}, {2, 3, 2}, {3, 2, 2}, {3, 3, 2}, {2, 2, 3}, {1, 2, 5}, {2, 2, 5}} {
		everyRows(c.n, c.width, c.q, func(rows [][]uint64) {
			if n, want := rank.Rank(rows, c.q), rankOf(rows, c.q); n != want {
				t.Fatalf("Rank(%v, %d): %d, not %d", rows, c.q, n, want)
			}
			if got, want := rank.Hangs(rows[1:], rows[0], c.q), depends(rows[1:], rows[0], c.q); got != want {
				t.Fatalf("Hangs(%v, %v, %d): %v", rows[1:], rows[0], c.q, got)
			}
		})
	}
}

// TestP41Minors: rows modulo small primes and great ones, held against determinants.
func TestP41Minors(t *testing.T) {
	r := rand.New(rand.NewSource(412))
	seen := [6]int{}
	for _, q := range primes {
		for range 60 {
			rows := anyRows(r, r.Intn(8), min(r.Intn(6), 4), q)
			want := rankByMinors(rows, q)
			if n := rank.Rank(rows, q); n != want {
				t.Fatalf("Rank(%v, %d): %d, not %d", rows, q, n, want)
			}
			seen[want]++
			row := anyRow(r, r.Intn(6), q)
			if r.Intn(2) == 0 {
				row = multiples(r, rows, q)
			}
			hangs := rankByMinors(with(rows, row), q) == want
			if got := rank.Hangs(rows, row, q); got != hangs {
				t.Fatalf("Hangs(%v, %v, %d): %v", rows, row, q, got)
			}
		}
	}
	for n := range 5 {
		if seen[n] < 20 {
			t.Error("only", seen[n], "of rank", n)
		}
	}
}

// TestP42Errors: each error by itself, and ErrArg before ErrNone.
func TestP42Errors(t *testing.T) {
	two := [][]uint64{{1, 2}, {2, 4}}
	for _, c := range []struct {
		what  string
		rows  [][]uint64
		right []uint64
		q     uint64
		want  api.Errno
	}{
		{"no rows", nil, nil, 7, api.OK},
		{"no rows", [][]uint64{}, []uint64{}, 7, api.OK},
		{"no rows, q 0", nil, nil, 0, api.ErrArg},
		{"no rows, one on the right", nil, []uint64{0}, 7, api.ErrArg},
		{"no rows, a 1 on the right", nil, []uint64{1}, 7, api.ErrArg},
		{"a row of nothing", [][]uint64{{}}, nil, 7, api.OK},
		{"a row of nothing, 0 on the right", [][]uint64{{}}, []uint64{0}, 7, api.OK},
		{"a row of nothing, q on the right", [][]uint64{{}}, []uint64{7}, 7, api.OK},
		{"a row of nothing, 1 on the right", [][]uint64{{}}, []uint64{1}, 7, api.ErrNone},
		{"rows of nothing, the last is 1", [][]uint64{{}, nil, {}}, []uint64{0, 0, 8}, 7, api.ErrNone},
		{"rows of nothing, one more on the right", [][]uint64{{}, {}}, []uint64{0, 0, 0}, 7, api.ErrArg},
		{"a row of 0s, 0 on the right", [][]uint64{{0, 7}}, []uint64{14}, 7, api.OK},
		{"a row of 0s, 1 on the right", [][]uint64{{0, 7}}, []uint64{1}, 7, api.ErrNone},
		{"a row of 0s, none on the right", [][]uint64{{0, 7}}, nil, 7, api.OK},
		{"one solution", [][]uint64{{1, 2}, {3, 4}}, []uint64{5, 6}, 7, api.OK},
		{"many solutions", two, []uint64{3, 6}, 7, api.OK},
		{"no solution", two, []uint64{3, 5}, 7, api.ErrNone},
		{"no solution, none on the right of the second", two, []uint64{3}, 7, api.ErrNone},
		{"no solution, and then one more row", with(two, []uint64{0, 1}), []uint64{3, 5, 1}, 7, api.ErrNone},
		{"no solution by the last of many", with(two, []uint64{0, 1}, []uint64{1, 1}), []uint64{3, 6, 1, 5}, 7, api.ErrNone},
		{"a solution of four", with(two, []uint64{0, 1}, []uint64{1, 1}), []uint64{3, 6, 1, 2}, 7, api.OK},
		{"fewer on the right", two, nil, 7, api.OK},
		{"one more on the right", two, []uint64{3, 6, 0}, 7, api.ErrArg},
		{"many more on the right", two, make([]uint64, 100), 7, api.ErrArg},
		{"two unlike rights", [][]uint64{{1}, {1}}, []uint64{1, 2}, 7, api.ErrNone},
		{"two unlike rights that are alike modulo q", [][]uint64{{1}, {8}}, []uint64{1, 15}, 7, api.OK},
		{"a row that is 0 modulo 3", [][]uint64{{3}}, []uint64{1}, 3, api.ErrNone},
		{"a row that is not 0 modulo 5", [][]uint64{{3}}, []uint64{1}, 5, api.OK},
		{"the second row is wider", [][]uint64{{1}, {1, 1}}, []uint64{1, 2}, 7, api.OK},
		{"q 0", two, []uint64{3, 6}, 0, api.ErrArg},
		{"q 1", two, []uint64{3, 6}, 1, api.ErrArg},
		{"q 2", two, []uint64{3, 6}, 2, api.OK},
		{"q 6", two, []uint64{3, 6}, 6, api.ErrArg},
		{"q MaxP", two, []uint64{3, 6}, api.MaxP, api.ErrArg},
		{"q MaxP - 1, a prime", two, []uint64{3, 6}, api.MaxP - 1, api.OK},
		{"q MaxP + 1", two, []uint64{3, 6}, api.MaxP + 1, api.ErrArg},
		{"q a prime above MaxP", two, []uint64{3, 6}, 2305843009213699919, api.ErrArg},
		{"ErrArg by q before ErrNone", two, []uint64{3, 5}, 6, api.ErrArg},
		{"ErrArg by q before ErrNone", two, []uint64{3, 5}, 2305843009213699919, api.ErrArg},
		{"ErrArg by the right before ErrNone", two, []uint64{3, 5, 0}, 7, api.ErrArg},
	} {
		x, e := rank.Solve(c.rows, c.right, c.q)
		if e != c.want || e != api.OK && x != nil || e == api.OK && len(x) != widthOf(c.rows) {
			t.Errorf("%s: Solve(%v, %v, %d) is %v, error %d", c.what, c.rows, c.right, c.q, x, e)
		}
	}
	for _, q := range wrong {
		for _, right := range [][]uint64{nil, {3}, {3, 6}, {3, 5}, {3, 6, 0}} {
			if x, e := rank.Solve(two, right, q); x != nil || e != api.ErrArg {
				t.Errorf("Solve modulo %d: %v, error %d", q, x, e)
			}
		}
	}
}

func TestP42Solutions(t *testing.T) {
	for _, c := range []struct {
		what  string
		rows  [][]uint64
		right []uint64
		q     uint64
		want  []uint64
	}{
		{"no rows", nil, nil, 7, nil},
		{"rows of nothing", [][]uint64{{}, {}}, []uint64{0, 7}, 7, nil},
		{"rows of 0s", [][]uint64{{0, 7, 0}, {14}}, []uint64{0, 7}, 7, []uint64{0, 0, 0}},
		{"one equation in one unknown", [][]uint64{{3}}, []uint64{1}, 7, []uint64{5}},
		{"numbers from q on", [][]uint64{{10}}, []uint64{15}, 7, []uint64{5}},
		{"one solution", [][]uint64{{1, 2}, {3, 4}}, []uint64{5, 6}, 7, []uint64{3, 1}},
		{"one solution, from the last column on", [][]uint64{{0, 0, 2}, {0, 1, 1}, {1, 1, 1}}, []uint64{2, 3, 6}, 7, []uint64{3, 2, 1}},
		{"the first unknown is in no equation", [][]uint64{{0, 2, 1}, {0, 1, 1}}, []uint64{3, 2}, 7, []uint64{0, 1, 1}},
		{"the second column is a multiple of the first", [][]uint64{{1, 2, 1}, {2, 4, 0}}, []uint64{3, 2}, 7, []uint64{1, 0, 2}},
		{"the third column is a sum", [][]uint64{{1, 0, 1}, {0, 1, 1}}, []uint64{4, 5}, 7, []uint64{4, 5, 0}},
		{"the last column is a sum, others after a column of 0s", [][]uint64{{0, 1, 0, 2}, {0, 0, 1, 3}}, []uint64{6, 1}, 7, []uint64{0, 6, 1, 0}},
		{"fewer on the right", [][]uint64{{1, 1}, {0, 1}}, []uint64{3}, 7, []uint64{3, 0}},
		{"none on the right", [][]uint64{{1, 1}, {0, 1}}, nil, 7, []uint64{0, 0}},
		{"0s on the right", [][]uint64{{1, 1}, {0, 1}}, []uint64{7, 0}, 7, []uint64{0, 0}},
		{"more rows than columns", [][]uint64{{1, 1}, {0, 1}, {2, 5}, {1, 0}}, []uint64{3, 1, 2, 2}, 7, []uint64{2, 1}},
		{"more columns than rows", [][]uint64{{0, 3, 1, 1, 5}}, []uint64{6}, 7, []uint64{0, 2, 0, 0, 0}},
		{"unlike widths", [][]uint64{{1}, {1, 1}, {}, {0, 0, 1}}, []uint64{1, 3, 0, 6}, 7, []uint64{1, 2, 6}},
		{"the widest row is 0 at its end", [][]uint64{{1}, {1, 1, 0, 7}}, []uint64{1, 3}, 7, []uint64{1, 2, 0, 0}},
		{"modulo 2", [][]uint64{{1, 1, 0}, {0, 1, 1}}, []uint64{1, 1}, 2, []uint64{0, 1, 0}},
		{"modulo a great prime", [][]uint64{{2, 1}, {1, 1}}, []uint64{1, 1}, mersenne, []uint64{0, 1}},
		{"modulo a great prime", [][]uint64{{2}}, []uint64{1}, mersenne, []uint64{mersenne/2 + 1}},
	} {
		if x := solve(t, c.rows, c.right, c.q); !slices.Equal(x, c.want) {
			t.Errorf("%s: Solve(%v, %v, %d) is %v, not %v", c.what, c.rows, c.right, c.q, x, c.want)
		}
	}
}

// checkSolve holds Solve against the definition.
func checkSolve(t *testing.T, rows [][]uint64, right []uint64, q uint64) int {
	t.Helper()
	all, want := solutionsOf(rows, right, q)
	if all > 0 && len(want) != 1 {
		t.Fatalf("%d unknowns, %d solutions", all, len(want))
	}
	x, e := rank.Solve(rows, right, q)
	if all == 0 {
		if x != nil || e != api.ErrNone {
			t.Fatalf("Solve(%v, %v, %d): %v, error %d; there is none", rows, right, q, x, e)
		}
		return all
	}
	if e != api.OK || !slices.Equal(x, want[0]) {
		t.Fatalf("Solve(%v, %v, %d): %v, error %d, not %v", rows, right, q, x, e, want[0])
	}
	return all
}

// TestP42Definition: equations modulo small primes, held against the definition.
func TestP42Definition(t *testing.T) {
	for _, c := range []struct {
		n, width int
		q        uint64
	}{{1, 2, 2}, {2, 2, 2}, {2, 3, 2}, {3, 2, 2}, {1, 2, 3}, {2, 1, 3}, {2, 2, 3}} {
		everyRows(c.n, c.width+1, c.q, func(rows [][]uint64) {
			var right []uint64
			for i, row := range rows {
				right = append(right, row[c.width])
				rows[i] = row[:c.width]
			}
			checkSolve(t, rows, right, c.q)
		})
	}
	r := rand.New(rand.NewSource(42))
	none, one, many := 0, 0, 0
	for _, q := range []uint64{2, 3, 5, 7} {
		for range 250 {
			rows := anyRows(r, r.Intn(5), r.Intn(4), q)
			right := anyRow(r, len(rows), q)
			if r.Intn(2) == 0 {
				right = multiples(r, columnsOf(rows, q), q)
			}
			switch all := checkSolve(t, rows, right, q); {
			case all == 0:
				none++
			case all == 1:
				one++
			default:
				many++
			}
		}
	}
	if none < 100 || one < 100 || many < 100 {
		t.Error(none, "without a solution,", one, "with one,", many, "with many")
	}
}

func TestP43OneMore(t *testing.T) {
	r := rand.New(rand.NewSource(43))
	more := 0
	for _, q := range primes {
		for range 300 {
			width := r.Intn(9)
			rows := anyRows(r, r.Intn(9), width, q)
			row := anyRow(r, width+1, q)
			if r.Intn(2) == 0 {
				row = multiples(r, rows, q)
			}
			before, after := rank.Rank(rows, q), rank.Rank(with(rows, row), q)
			want := before
			if !rank.Hangs(rows, row, q) {
				want++
				more++
			}
			if after != want {
				t.Fatalf("%v and %v modulo %d: %d, then %d", rows, row, q, before, after)
			}
			if before < 0 || before > len(rows) || before > widthOf(rows) {
				t.Fatalf("Rank(%v, %d): %d", rows, q, before)
			}
			if !rank.Hangs(rows, multiples(r, rows, q), q) {
				t.Fatalf("a sum of multiples of %v modulo %d does not depend on them", rows, q)
			}
			for i, l := range rows {
				if !rank.Hangs(rows, l, q) {
					t.Fatalf("the row %d of %v modulo %d does not depend on all", i, rows, q)
				}
			}
		}
	}
	if more < 300 {
		t.Error("only", more, "times one more")
	}
}

func TestP44Submodularity(t *testing.T) {
	r := rand.New(rand.NewSource(44))
	less := 0
	for _, q := range primes {
		for range 300 {
			width := r.Intn(7)
			a, b, c := anyRows(r, r.Intn(5), width, q), anyRows(r, r.Intn(5), width, q), anyRows(r, r.Intn(5), width, q)
			if r.Intn(2) == 0 {
				b = append(b, multiples(r, a, q))
			}
			left := rank.Rank(slices.Concat(a, b, c), q) + rank.Rank(c, q)
			right := rank.Rank(slices.Concat(a, c), q) + rank.Rank(slices.Concat(b, c), q)
			if left > right {
				t.Fatalf("%v, %v and %v modulo %d: %d is above %d", a, b, c, q, left, right)
			}
			if left < right {
				less++
			}
		}
	}
	if less < 100 {
		t.Error("only", less, "times less")
	}
}

func TestP45Transposition(t *testing.T) {
	r := rand.New(rand.NewSource(45))
	for _, q := range primes {
		for range 300 {
			rows := anyRows(r, r.Intn(9), r.Intn(9), q)
			if a, b := rank.Rank(rows, q), rank.Rank(columnsOf(rows, q), q); a != b {
				t.Fatalf("%v modulo %d: %d by rows, %d by columns", rows, q, a, b)
			}
		}
	}
}

func TestP46Invariance(t *testing.T) {
	r := rand.New(rand.NewSource(46))
	for _, q := range primes {
		for range 250 {
			rows := anyRows(r, r.Intn(8), r.Intn(8), q)
			want := rank.Rank(rows, q)
			same := func(what string) {
				t.Helper()
				if n := rank.Rank(rows, q); n != want {
					t.Fatalf("%s: Rank(%v, %d) is %d, not %d", what, rows, q, n, want)
				}
			}
			r.Shuffle(len(rows), func(i, j int) { rows[i], rows[j] = rows[j], rows[i] })
			same("reordered")
			slices.Reverse(rows)
			same("reversed")
			for i, row := range rows {
				rows[i] = plus(nil, row, 1+r.Uint64()%(q-1), q)
			}
			same("multiplied")
			for range 5 {
				if len(rows) < 2 {
					break
				}
				i := r.Intn(len(rows))
				j := (i + 1 + r.Intn(len(rows)-1)) % len(rows)
				rows[i] = plus(rows[i], rows[j], r.Uint64(), q)
			}
			same("multiples added")
			for i, row := range rows {
				for j := range row {
					row[j] = row[j]%q + q*uint64(r.Intn(2))
				}
				rows[i] = append(row, make([]uint64, r.Intn(3))...)
			}
			same("padded, and numbers from q on")
		}
	}
}

func TestP47Solutions(t *testing.T) {
	r := rand.New(rand.NewSource(47))
	fine, none := 0, 0
	for _, q := range primes {
		for range 300 {
			rows := anyRows(r, r.Intn(8), r.Intn(8), q)
			columns := columnsOf(rows, q)
			right := anyRow(r, len(rows), q)
			known := r.Intn(2) == 0
			if known { // computed from any unknowns
				right = multiples(r, columns, q)
			}
			x, e := rank.Solve(rows, right, q)
			if known && e != api.OK {
				t.Fatalf("Solve(%v, %v, %d): error %d, but there is one", rows, right, q, e)
			}
			if hangs := rank.Hangs(columns, right, q); hangs != (e == api.OK) {
				t.Fatalf("Solve(%v, %v, %d): error %d, the right depends on the columns: %v", rows, right, q, e, hangs)
			}
			if e != api.OK {
				none++
				if e != api.ErrNone || x != nil {
					t.Fatalf("Solve(%v, %v, %d): %v, error %d", rows, right, q, x, e)
				}
				continue
			}
			fine++
			if len(x) != widthOf(rows) || !holds(rows, right, x, q) {
				t.Fatalf("Solve(%v, %v, %d): %v", rows, right, q, x)
			}
			for j, u := range x {
				if u >= q || u != 0 && rank.Hangs(columns[:j], columns[j], q) {
					t.Fatalf("Solve(%v, %v, %d): %v, the unknown %d should be 0 or less", rows, right, q, x, j)
				}
			}
		}
	}
	if fine < 300 || none < 200 {
		t.Error(fine, "with a solution,", none, "without one")
	}
}

// TestMany: many rows, and wide ones.
func TestMany(t *testing.T) {
	r := rand.New(rand.NewSource(48))
	const q = mersenne
	var rows [][]uint64
	for range 40 {
		row := make([]uint64, 60)
		for i := range row {
			row[i] = r.Uint64()
		}
		rows = append(rows, row)
	}
	for range 40 {
		rows = append(rows, multiples(r, rows[:40], q))
	}
	r.Shuffle(len(rows), func(i, j int) { rows[i], rows[j] = rows[j], rows[i] })
	if n := rank.Rank(rows, q); n != 40 {
		t.Error("Rank:", n)
	}
	unknowns := make([]uint64, 60)
	for i := range unknowns {
		unknowns[i] = r.Uint64()
	}
	right := make([]uint64, len(rows))
	for i, row := range rows {
		sum := new(big.Int)
		for j, x := range row {
			sum.Add(sum, new(big.Int).Mul(bigOf(x), bigOf(unknowns[j])))
		}
		right[i] = sum.Mod(sum, bigOf(q)).Uint64()
	}
	x := solve(t, rows, right, q)
	if !holds(rows, right, x, q) || slices.Max(x[40:]) != 0 {
		t.Error("Solve:", x)
	}
	if n := rank.Rank([][]uint64{{1}, make([]uint64, 100000), {0, 1}, {1, 1}}, 2); n != 2 {
		t.Error("Rank of a wide row:", n)
	}
	many := make([][]uint64, 20000)
	for i := range many {
		many[i] = []uint64{uint64(i), uint64(i) + 1}
	}
	if n := rank.Rank(many, 7); n != 2 {
		t.Error("Rank of many rows:", n)
	}
}

// TestR1: nothing that is handed in is changed, and no answer shares memory with it.
func TestR1(t *testing.T) {
	const q = 7
	back := []uint64{8, 2, 10, 14, 5, 9, 0, 21, 3, 6, 6, 6}
	rows := [][]uint64{back[0:3], {}, back[3:5], back[5:9], nil, {0, 1, 0, 0}} // with numbers beyond their ends
	row, right := back[9:11], []uint64{1, 0, 9, 15, 0, 6, 99, 99}[:6]
	list := rows[:4]
	kept, keptBack, keptRight := cloneOf(rows), slices.Clone(back), slices.Clone(right[:8])
	check := func(what string) {
		t.Helper()
		for i, l := range rows {
			if !slices.Equal(l, kept[i]) {
				t.Fatalf("%s changed the row %v to %v", what, kept[i], l)
			}
		}
		if !slices.Equal(back, keptBack) || !slices.Equal(right[:8], keptRight) || len(rows) != 6 {
			t.Fatalf("%s changed %v to %v, or %v to %v", what, keptBack, back, keptRight, right[:8])
		}
	}
	rank.Rank(rows, q)
	rank.Rank(list, q)
	check("Rank")
	rank.Hangs(rows, row, q)
	rank.Hangs(list, row, q)
	rank.Hangs(rows[:1], back, q)
	check("Hangs")
	if x, e := rank.Solve(rows, right[:3], q); x != nil || e != api.ErrNone {
		t.Error("Solve:", x, e)
	}
	check("Solve without a solution")
	for _, n := range []int{0, 1, 6} {
		x := solve(t, rows, right[:n], q)
		check("Solve")
		if y := solve(t, rows, right[:n], q); !slices.Equal(x, y) {
			t.Error("the same call answers otherwise:", x, y)
		}
		for i := range x[:cap(x)] {
			x[:cap(x)][i] = 55
		}
		check("writing into the answer of Solve")
	}
	// The rows are 1s on the diagonal, so that the answer is the right itself.
	unit := [][]uint64{{1, 0, 0}, {0, 1, 0}, {0, 0, 1}}
	three := []uint64{4, 5, 6}
	x := solve(t, unit, three, q)
	x[0], x[1], x[2] = 1, 1, 1
	if !slices.Equal(three, []uint64{4, 5, 6}) || unit[0][0] != 1 || unit[0][1] != 0 {
		t.Error("writing into the answer changed", three, unit)
	}
	one := []uint64{1, 2}
	if n := rank.Rank([][]uint64{one, one, one}, q); n != 1 || one[0] != 1 || one[1] != 2 {
		t.Error("a row that is handed in thrice:", n, one)
	}
	if !rank.Hangs([][]uint64{one}, one, q) {
		t.Error("a row does not depend on itself")
	}
	if y := solve(t, [][]uint64{one, {0, 1}}, one, q); !slices.Equal(y, []uint64{4, 2}) || one[0] != 1 || one[1] != 2 {
		t.Error("a row that is the right as well:", y, one)
	}
}
