package tape_test

import (
	"math"
	"math/big"
	"math/rand"
	"slices"
	"strconv"
	"testing"
	"unsafe"

	"consistory/tape"
)

const (
	step = 0x9E3779B97F4A7C15
	top  = math.MaxUint64
	most = 1024 // draws of one call
)

var whole = new(big.Int).Lsh(big.NewInt(1), 64) // 2^64

// num returns a number without bounds.
func num(x uint64) *big.Int { return new(big.Int).SetUint64(x) }

// modulo returns x modulo q; x itself if q is 0.
func modulo(x, q uint64) uint64 {
	if q == 0 {
		return x
	}
	return new(big.Int).Mod(num(x), num(q)).Uint64()
}

// multiple returns the greatest multiple of q that is at most 2^64; 2^64 if q is 0.
func multiple(q uint64) *big.Int {
	if q == 0 {
		return whole
	}
	return new(big.Int).Mul(new(big.Int).Quo(whole, num(q)), num(q))
}

// model is a tape by the definition: what the package's tape is held against.
type model struct {
	first []uint64
	state *big.Int
	made  int
}

func newModel(first []uint64, seed uint64) *model {
	return &model{first: slices.Clone(first), state: num(seed)}
}

// number returns the next one of the model's own numbers.
func (m *model) number() uint64 {
	m.state = new(big.Int).Add(m.state, num(step))
	m.state.Mod(m.state, whole)
	z := new(big.Int).Set(m.state)
	for _, part := range []struct {
		shift uint
		times uint64
	}{{30, 0xBF58476D1CE4E5B9}, {27, 0x94D049BB133111EB}, {31, 1}} {
		z.Xor(z, new(big.Int).Rsh(z, part.shift))
		z.Mul(z, num(part.times))
		z.Mod(z, whole)
	}
	return z.Uint64()
}

func (m *model) next(q uint64) uint64 {
	m.made++
	if len(m.first) > 0 {
		z := m.first[0]
		m.first = slices.Delete(m.first, 0, 1)
		return modulo(z, q)
	}
	for {
		if z := m.number(); num(z).Cmp(multiple(q)) < 0 {
			return modulo(z, q)
		}
	}
}

func (m *model) draws(n int, q uint64) []uint64 {
	if n < 0 || n > most {
		return nil
	}
	var l []uint64
	for range n {
		l = append(l, m.next(q))
	}
	return l
}

func (m *model) copied() *model {
	return &model{slices.Clone(m.first), new(big.Int).Set(m.state), m.made}
}

// seedFor returns the seed whose k-th number, from 1, is z: each part of the numbers' definition can be undone.
func seedFor(z uint64, k int) uint64 {
	back := func(z uint64, shift uint) uint64 {
		x := z
		for range 64 / shift {
			x = z ^ x>>shift
		}
		return x
	}
	inverse := func(x uint64) uint64 { return new(big.Int).ModInverse(num(x), whole).Uint64() }
	z = back(z, 31) * inverse(0x94D049BB133111EB)
	z = back(z, 27) * inverse(0xBF58476D1CE4E5B9)
	return back(z, 30) - uint64(k)*step
}

// seeds: 0, the greatest one, those where the state runs over with the first number or just not, single bits, and some more.
func seeds() []uint64 {
	minus := uint64(step)
	l := []uint64{0, 1, 2, 42, 1234567, step, top, top - 1, -minus, -minus - 1, -minus + 1, top - 2*minus + 1}
	for i := range 64 {
		l = append(l, 1<<i, ^uint64(1<<i))
	}
	r := rand.New(rand.NewSource(12))
	for range 100 {
		l = append(l, r.Uint64())
	}
	return l
}

// bounds: 0, 1, all powers of two and what is about them, numbers of which nearly half of all or more are rejected, and others where 2^64 is no multiple.
func bounds() []uint64 {
	l := []uint64{0, 1, 3, 5, 6, 7, 10, 11, 23, 47, 641, 6700417, top, top - 1, top / 3, top/3 + 1, top/3 + 2, top/2 + 1, top/2 + 2, top/2 + 3, top / 5 * 4, 2305843009213693951}
	for i := range 64 {
		l = append(l, 1<<i, 1<<i+1)
		if i > 0 {
			l = append(l, 1<<i-1)
		}
	}
	return l
}

// name tells a number.
func name(x uint64) string { return strconv.FormatUint(x, 10) }

// same tells that a list is what it should be; none is as good as an empty one.
func same(t *testing.T, got, want []uint64) {
	t.Helper()
	if !slices.Equal(got, want) {
		t.Fatalf("%d numbers %X, not %d numbers %X", len(got), got[:min(len(got), 10)], len(want), want[:min(len(want), 10)])
	}
}

// is tells that a number is what it should be.
func is(t *testing.T, got, want uint64) {
	t.Helper()
	if got != want {
		t.Fatalf("%X, not %X", got, want)
	}
}

// at tells how many draws were made.
func at(t *testing.T, x *tape.Tape, want int) {
	t.Helper()
	if got := x.At(); got != want {
		t.Fatalf("At: %d, not %d", got, want)
	}
}

// goesOn tells that a tape goes on as the model does; both of them stay where they are. What is left of the numbers given in advance, and some own ones, are drawn from copies.
func goesOn(t *testing.T, x *tape.Tape, m *model) {
	t.Helper()
	at(t, x, m.made)
	y, n := x.Copy(), m.copied()
	for i := range len(m.first) + 3 {
		if got, want := y.Next(0), n.next(0); got != want {
			t.Fatalf("%d draws on: %X, not %X", i, got, want)
		}
	}
	at(t, x, m.made)
}

// TestExamples: the chapter's own examples (P12.1, P12.2).
func TestExamples(t *testing.T) {
	x := tape.New(0)
	is(t, x.Next(0), 0xE220A8397B1DCDAF)
	is(t, x.Next(0), 0x6E789E6AA1B965F4)
	is(t, x.Next(0), 0x06C45D188009454F)
	x = tape.Of([]uint64{7, 30}, 0)
	is(t, x.Next(10), 7)
	is(t, x.Next(11), 8)
	is(t, x.Next(0), 0xE220A8397B1DCDAF)
	at(t, x, 3)
	is(t, x.Next(1), 0)
	at(t, x, 4)
}

// TestPublished: numbers that are published with SplitMix64 (P12.1).
func TestPublished(t *testing.T) {
	same(t, tape.New(1234567).Draws(5, 0), []uint64{6457827717110365317, 3203168211198807973, 9817491932198370423, 4593380528125082431, 16408922859458223821})
	same(t, tape.New(0).Draws(5, 0), []uint64{0xE220A8397B1DCDAF, 0x6E789E6AA1B965F4, 0x06C45D188009454F, 0xF88BB8A8724C81EC, 0x1B39896A51A8749B})
}

// TestOwn: a tape's own numbers are those of the definition, one by one and many at once (P12.1).
func TestOwn(t *testing.T) {
	for _, seed := range seeds() {
		x, y, m := tape.New(seed), tape.Of(nil, seed), newModel(nil, seed)
		for range 50 {
			want := m.number()
			is(t, x.Next(0), want)
			is(t, y.Next(0), want)
		}
		same(t, tape.New(seed).Draws(60, 0), newModel(nil, seed).draws(60, 0))
	}
}

// TestAnyNumber: any number can come from a tape (P12.1), so that the edges below can be met.
func TestAnyNumber(t *testing.T) {
	for _, z := range seeds() {
		for k := 1; k < 4; k++ {
			x := tape.New(seedFor(z, k))
			x.Draws(k-1, 0)
			is(t, x.Next(0), z)
		}
	}
}

// TestBounds: draws below q of each kind, at many seeds, are those of the definition, and so is what comes behind them (P12.1, P12.3).
func TestBounds(t *testing.T) {
	for _, q := range bounds() {
		for _, seed := range seeds()[:40] {
			x, m := tape.New(seed), newModel(nil, seed)
			for range 4 {
				z := x.Next(q)
				if z != m.next(q) || q > 0 && z >= q {
					t.Fatal(name(z), "below", name(q), "of", name(seed))
				}
			}
			goesOn(t, x, m)
		}
	}
}

// TestEdge: the greatest number that a draw does not reject, and the least one that it does, each as the first number of a tape (P12.1).
func TestEdge(t *testing.T) {
	rejecting := 0
	for _, q := range bounds() {
		edge := new(big.Int).Sub(multiple(q), big.NewInt(1)).Uint64()
		seed := seedFor(edge, 1)
		x := tape.New(seed)
		is(t, x.Next(q), modulo(edge, q))
		if q > 0 {
			is(t, q-1, modulo(edge, q))
		}
		is(t, x.Next(0), tape.New(seed+step).Next(0))
		at(t, x, 2)
		if edge == top {
			continue
		}
		rejecting++
		for _, z := range []uint64{edge + 1, edge + (top-edge+1)/2, top} {
			seed := seedFor(z, 1)
			x, m := tape.New(seed), newModel(nil, seed)
			same(t, x.Draws(2, q), m.draws(2, q))
			goesOn(t, x, m)
			is(t, tape.New(seed).Next(q), tape.New(seed+step).Next(q))
		}
	}
	if rejecting < 100 {
		t.Fatal("only", rejecting, "numbers that reject any")
	}
}

// TestWholeMultiple: where 2^64 is a multiple of q nothing is rejected, not even the greatest number: each draw takes one number (P12.1, P12.6).
func TestWholeMultiple(t *testing.T) {
	for i := range 64 {
		q := uint64(1) << i
		for k := 1; k < 5; k++ {
			seed := seedFor(top, k)
			x := tape.New(seed)
			x.Draws(k-1, q)
			is(t, x.Next(q), q-1)
			is(t, x.Next(0), tape.New(seed+uint64(k)*step).Next(0))
		}
		for _, seed := range seeds()[:30] {
			x := tape.New(seed)
			for _, z := range tape.New(seed).Draws(10, 0) {
				is(t, x.Next(q), z%q)
			}
		}
	}
	x := tape.New(seedFor(top, 1))
	is(t, x.Next(0), top)
}

// TestRejected: numbers that are rejected are consumed, however many they are, and make no draw (P12.1, P12.2).
func TestRejected(t *testing.T) {
	for _, q := range []uint64{1<<63 + 1, 1<<63 + 2, top/3 + 1, 3 << 61, top/3*2 + 5} {
		longest := 0
		for seed := range uint64(600) {
			rejected, own := 0, newModel(nil, seed)
			z := own.number()
			for num(z).Cmp(multiple(q)) >= 0 {
				rejected, z = rejected+1, own.number()
			}
			x := tape.New(seed)
			is(t, x.Next(q), z%q)
			at(t, x, 1)
			is(t, x.Next(0), own.number())
			longest = max(longest, rejected)
		}
		if longest < 3 {
			t.Fatal("at most", longest, "were rejected below", name(q))
		}
	}
}

// TestHalfRejected: below 2^63 + 1 half of the numbers are rejected, below 2^64 - 1 only the greatest one (P12.1).
func TestHalfRejected(t *testing.T) {
	for _, seed := range seeds() {
		var kept []uint64
		for _, z := range tape.New(seed).Draws(100, 0) {
			if z <= 1<<63 {
				kept = append(kept, z)
			}
		}
		same(t, tape.New(seed).Draws(len(kept), 1<<63+1), kept)
		same(t, tape.New(seed).Draws(100, top), tape.New(seed).Draws(100, 0))
	}
	is(t, tape.New(seedFor(1<<63, 1)).Next(1<<63+1), 1<<63)
	for _, q := range []uint64{1<<63 + 1, top} {
		seed := seedFor(q, 1) // the number q itself is the first one that is rejected
		x := tape.New(seed)
		is(t, x.Next(q), tape.New(seed+step).Next(q))
		is(t, tape.New(seedFor(q-1, 1)).Next(q), q-1)
	}
}

// advances: numbers given in advance, in rows of none, one and many.
func advances() [][]uint64 {
	r := rand.New(rand.NewSource(3))
	l := [][]uint64{nil, {}, {0}, {1}, {top}, {top - 1}, {0, 0, 0}, {top, 0, top}, {7, 30}, {1 << 63, 1<<63 + 1, 1<<63 - 1, top}, {5, 4, 3, 2, 1, 0}}
	for _, n := range []int{2, 20, most - 1, most, most + 1, 5000} {
		many := make([]uint64, n)
		for i := range many {
			many[i] = r.Uint64() >> r.Intn(64)
		}
		l = append(l, many)
	}
	return l
}

// TestAdvance: numbers given in advance come first, in order, reduced, and none of them is rejected; the tape's own ones behind them are as if there had been none (P12.1, P12.5).
func TestAdvance(t *testing.T) {
	for _, first := range advances() {
		for i, q := range bounds() {
			seed := seeds()[i]
			x := tape.Of(first, seed)
			for k, z := range first {
				if got := x.Next(q); got != modulo(z, q) {
					t.Fatal(name(z), "below", name(q), "is", name(got))
				}
				if k < 3 || k == len(first)-1 {
					at(t, x, k+1)
				}
			}
			at(t, x, len(first))
			same(t, x.Draws(5, q), tape.New(seed).Draws(5, q))
			at(t, x, len(first)+5)
			is(t, x.Next(0), behind(seed, 5, q).Next(0))
			if len(first) > 100 && i > 30 {
				break
			}
		}
	}
}

// behind returns the tape of a seed, after some draws below q.
func behind(seed uint64, n int, q uint64) *tape.Tape {
	x := tape.New(seed)
	x.Draws(n, q)
	return x
}

// TestAdvanceEdges: numbers given in advance of 0, of the greatest one and of those about q, below q of each kind (P12.1, P12.5).
func TestAdvanceEdges(t *testing.T) {
	for _, c := range []struct{ z, q, want uint64 }{
		{0, 0, 0}, {top, 0, top}, {5, 0, 5}, {0, 1, 0}, {top, 1, 0}, {5, 1, 0},
		{9, 10, 9}, {10, 10, 0}, {11, 10, 1}, {20, 10, 0}, {top, 10, 5}, {0, 10, 0},
		{top, top, 0}, {top - 1, top, top - 1}, {0, top, 0}, {top, 1<<63 + 1, 1<<63 - 2}, {1<<63 + 1, 1<<63 + 1, 0}, {1 << 63, 1<<63 + 1, 1 << 63},
		{top, 1 << 63, 1<<63 - 1}, {top, 1 << 32, 1<<32 - 1}, {top, 2, 1}, {top - 1, 2, 0}, {top, 3, 0}, {top, 7, 1},
	} {
		for _, behind := range [][]uint64{nil, {3, 4}} {
			x := tape.Of(append([]uint64{c.z}, behind...), 8)
			if got := x.Next(c.q); got != c.want {
				t.Fatal(name(c.z), "below", name(c.q), "is", name(got), "not", name(c.want))
			}
			at(t, x, 1)
			same(t, x.Draws(len(behind)+1, 0), append(slices.Clone(behind), newModel(nil, 8).number()))
		}
	}
}

// TestDraws: n draws are as many as n calls of Next, from 0 to the most, with and without numbers given in advance (P12.1, P12.2).
func TestDraws(t *testing.T) {
	for _, n := range []int{0, 1, 2, 3, 10, 511, 512, most - 1, most} {
		for _, q := range []uint64{0, 1, 2, 10, 1 << 63, 1<<63 + 1, top/3 + 1, top, 2305843009213693951} {
			for _, first := range advances() {
				x, one, m := tape.Of(first, 99), tape.Of(first, 99), newModel(first, 99)
				var want []uint64
				for range n {
					want = append(want, one.Next(q))
				}
				same(t, x.Draws(n, q), want)
				at(t, x, n)
				at(t, one, n)
				if n < 20 {
					same(t, want, m.draws(n, q))
					if len(first) < 30 {
						goesOn(t, x, m)
						goesOn(t, one, m)
					}
				}
				is(t, x.Next(0), one.Next(0))
			}
		}
	}
}

// TestNoDraws: with n below 0 or above the most there are none, and none is made: the tape is where it was (P12.1, P12.2).
func TestNoDraws(t *testing.T) {
	for _, n := range []int{-1, -2, -most, math.MinInt32, math.MinInt, most + 1, most + 2, 2 * most, 1 << 20, math.MaxInt32, math.MaxInt - 1, math.MaxInt, 0} {
		for _, q := range []uint64{0, 1, 7, 1<<63 + 1, top} {
			for _, first := range advances() {
				x := tape.Of(first, 5)
				same(t, x.Draws(n, q), nil)
				at(t, x, 0)
				made := min(len(first)+2, 4)
				same(t, x.Draws(made, 0), tape.Of(first, 5).Draws(made, 0))
				same(t, x.Draws(n, q), nil)
				at(t, x, made)
				is(t, x.Next(0), newModelAt(first, 5, made).next(0))
			}
		}
	}
}

// newModelAt returns a model behind some draws.
func newModelAt(first []uint64, seed uint64, made int) *model {
	m := newModel(first, seed)
	m.draws(made, 0)
	return m
}

// TestAt: a draw counts once, whatever q is, whether it is one by itself, one of many, one given in advance, or one with others rejected ahead of it (P12.2).
func TestAt(t *testing.T) {
	for _, first := range [][]uint64{nil, {1}, {1, 2, 3, 4, 5}, make([]uint64, 40)} {
		for _, q := range bounds() {
			x := tape.Of(first, 17)
			at(t, x, 0)
			at(t, x, 0)
			x.Next(q)
			at(t, x, 1)
			x.Draws(3, q)
			at(t, x, 4)
			x.Draws(0, q)
			x.Draws(-1, q)
			x.Draws(most+1, q)
			at(t, x, 4)
			x.Next(0)
			x.Draws(100, q)
			at(t, x, 105)
			x.Copy().Draws(7, q)
			at(t, x, 105)
		}
	}
	x := tape.New(1)
	for range 200 {
		x.Draws(most, 1<<63+1)
	}
	at(t, x, 200*most)
}

// copyAt returns a tape behind some draws, a copy of it, and the model of both.
func copyAt(first []uint64, seed uint64, made int) (x, y *tape.Tape, m *model) {
	x, m = tape.Of(first, seed), newModelAt(first, seed, made)
	x.Draws(made, 0)
	return x, x.Copy(), m
}

// TestCopy: a copy of a new tape, of one amid the numbers given in advance, and of one behind them, goes on as the tape does, and neither affects the other (P12.2, P12.7).
func TestCopy(t *testing.T) {
	for _, first := range [][]uint64{nil, {4}, {1, 2, 3, 4, 5, 6, 7, 8}} {
		for made := range 12 {
			x, y, m := copyAt(first, 6, made)
			at(t, y, made)
			for _, q := range []uint64{0, 3, 1<<63 + 1} { // the copy alone goes on
				n := m.copied()
				z := y.Copy()
				same(t, z.Draws(10, q), n.draws(10, q))
				at(t, z, made+10)
				at(t, x, made)
				goesOn(t, x, m)
				goesOn(t, y, m)
			}
			same(t, x.Draws(10, 5), m.copied().draws(10, 5)) // the tape alone goes on
			at(t, y, made)
			goesOn(t, y, m)
			same(t, y.Draws(10, 5), m.copied().draws(10, 5))
			is(t, x.Next(0), y.Next(0))
		}
	}
}

// TestCopyOfCopy: a copy of a copy, and what is drawn in turn from all of them (P12.2, P12.7).
func TestCopyOfCopy(t *testing.T) {
	x, y, m := copyAt([]uint64{1, 2, 3, 4, 5, 6, 7, 8}, 6, 3)
	z := y.Copy()
	n, o := m.copied(), m.copied()
	for i := range 20 {
		q := bounds()[i*7]
		is(t, z.Next(q), o.next(q))
		if i%2 == 0 {
			is(t, x.Next(q), m.next(q))
		}
		if i%3 == 0 {
			is(t, y.Next(q), n.next(q))
		}
		at(t, x, m.made)
		at(t, y, n.made)
		at(t, z, o.made)
	}
	goesOn(t, x, m)
	goesOn(t, y, n)
	goesOn(t, z, o)
	if x == y || y == z || x.Copy() == x {
		t.Fatal("a copy is the tape itself")
	}
}

// TestNil: each call of a tape that is nil (P12.2, R1).
func TestNil(t *testing.T) {
	var x *tape.Tape
	for _, q := range bounds() {
		is(t, x.Next(q), 0)
		for _, n := range []int{math.MinInt, -1, 0, 1, 2, most, most + 1, math.MaxInt} {
			same(t, x.Draws(n, q), nil)
		}
	}
	at(t, x, 0)
	if y := x.Copy(); y != nil {
		t.Fatal("a copy of nil")
	}
	at(t, x.Copy(), 0)
}

// TestUnmade: no call of a tape that was not made by New or Of panics, and all of them end (R1).
func TestUnmade(t *testing.T) {
	for _, q := range bounds() {
		var x tape.Tape
		at(t, &x, 0)
		if z := x.Next(q); q > 0 && z >= q {
			t.Fatal(name(z), "below", name(q))
		}
		if l := x.Draws(3, q); len(l) != 3 {
			t.Fatal(len(l), "draws")
		}
		at(t, &x, 4)
		y := new(tape.Tape).Copy()
		same(t, y.Draws(-1, q), nil)
		at(t, y, 0)
	}
}

// TestArguments: the row that Of was given is not changed by any call, not behind its end either (R1).
func TestArguments(t *testing.T) {
	room := []uint64{9, 8, 7, 6, 5, 4}
	for n := range len(room) + 1 {
		x := tape.Of(room[:n], 3)
		x.Next(2)
		y := x.Copy()
		x.Draws(10, 3)
		y.Draws(2, 0)
		y.Copy().Draws(10, 1<<63+1)
		same(t, room, []uint64{9, 8, 7, 6, 5, 4})
	}
}

// TestChangedAfterwards: the row that Of was given may be changed afterwards, ahead of any draw and amid them: neither the tape nor copies show it (R1).
func TestChangedAfterwards(t *testing.T) {
	for made := range 7 {
		row := []uint64{9, 8, 7, 6, 5, 4, 111}
		first := row[:6]
		x, m := tape.Of(first, 3), newModel(first, 3)
		y := x.Copy()
		x.Draws(made, 0)
		m.draws(made, 0)
		z := x.Copy()
		for i := range row {
			row[i] = 1000 + uint64(i)
		}
		first = append(first, 12)
		goesOn(t, x, m)
		goesOn(t, z, m)
		goesOn(t, y, newModel([]uint64{9, 8, 7, 6, 5, 4}, 3))
		same(t, x.Draws(9, 0), m.draws(9, 0))
		same(t, row, []uint64{1000, 1001, 1002, 1003, 1004, 1005, 12})
		same(t, first, row)
	}
}

// TestAnswers: the row that Draws returned may be changed, and extended: neither the tape, nor its copies, nor other answers show it (R1).
func TestAnswers(t *testing.T) {
	first := []uint64{9, 8, 7, 6, 5, 4}
	for _, n := range []int{0, 1, 2, 3, 6, 7, 20} {
		x, m := tape.Of(first, 3), newModel(first, 3)
		y := x.Copy()
		a, b, c := x.Draws(n, 0), x.Draws(n, 0), y.Draws(n, 0)
		want, wantB := m.draws(n, 0), m.draws(n, 0)
		for i := range a[:cap(a)] {
			a[:cap(a)][i] = 77
		}
		_ = append(a, 5, 5, 5)
		same(t, b, wantB)
		same(t, c, want)
		same(t, first, []uint64{9, 8, 7, 6, 5, 4})
		goesOn(t, x, m)
		goesOn(t, y, newModelAt(first, 3, n))
		if n > 0 && (unsafe.SliceData(a) == unsafe.SliceData(b) || unsafe.SliceData(a) == unsafe.SliceData(c) || unsafe.SliceData(a) == unsafe.SliceData(first)) {
			t.Fatal("answers share memory")
		}
	}
}

// TestBelow: a draw below q is below q, over many seeds and q's (P12.3).
func TestBelow(t *testing.T) {
	r := rand.New(rand.NewSource(123))
	for range 20000 {
		q := r.Uint64()>>r.Intn(64) | 1<<r.Intn(64)
		x := tape.Of([]uint64{r.Uint64(), r.Uint64()}, r.Uint64())
		for _, z := range append(x.Draws(6, q), x.Next(q)) {
			if z >= q {
				t.Fatal(name(z), "below", name(q))
			}
		}
	}
}

// TestJumping: after n draws of any number a tape is the tape of the seed plus n times the step (P12.4).
func TestJumping(t *testing.T) {
	for _, seed := range seeds() {
		x := tape.New(seed)
		made := 0
		for _, n := range []int{1, 1, 2, 5, 100, most} {
			if n == 1 {
				x.Next(0)
			} else {
				x.Draws(n, 0)
			}
			made += n
			at(t, x, made)
			jumped := tape.New(seed + uint64(made)*step)
			y := x.Copy()
			for _, q := range []uint64{0, 1, 10, 1<<63 + 1, 1 << 40, top / 3 * 2} {
				same(t, y.Draws(4, q), jumped.Draws(4, q))
			}
		}
	}
}

// TestUniformity: a draw below a power of two is the lowest bits of the next number; one below q is that below a multiple of q, reduced, if the next number is below the greatest multiples of both (P12.6).
func TestUniformity(t *testing.T) {
	r := rand.New(rand.NewSource(126))
	met := 0
	for range 4000 {
		q := 1 + r.Uint64()>>(1+r.Intn(63))
		times := 1 + r.Uint64()%min(top/q, 1<<uint(r.Intn(64)))
		least := multiple(q)
		if other := multiple(q * times); other.Cmp(least) < 0 {
			least = other
		}
		edge := new(big.Int).Sub(least, big.NewInt(1)).Uint64()
		for _, seed := range []uint64{r.Uint64(), r.Uint64(), seedFor(edge, 1)} {
			z := tape.New(seed).Next(0)
			if z > edge {
				continue
			}
			met++
			is(t, tape.New(seed).Next(q), tape.New(seed).Next(q*times)%q)
			i := r.Intn(64)
			is(t, tape.New(seed).Next(1<<i), z&(1<<i-1))
		}
	}
	if met < 6000 {
		t.Fatal("only", met, "met")
	}
}

// TestEvenly: each number below q is drawn as often as the others, about: a draw that did not reject, or rejected others, would show here (P12.6).
func TestEvenly(t *testing.T) {
	const q = top/3*2 + 1 // without rejection the lower half of these comes twice as often
	low := 0
	x := tape.New(77)
	for range 20 {
		for _, z := range x.Draws(1000, q) {
			if z < q/2 {
				low++
			}
		}
	}
	if low < 9600 || low > 10400 {
		t.Fatal(low, "of 20000 in the lower half")
	}
	for _, q := range []uint64{2, 3, 5, 6, 7, 10} {
		counts := make([]int, q)
		x := tape.New(q)
		for range 20 {
			for _, z := range x.Draws(1000, q) {
				counts[z]++
			}
		}
		for z, n := range counts {
			if far := n - 20000/int(q); far < -700 || far > 700 {
				t.Fatal(z, "below", q, "came", n, "times")
			}
		}
	}
}

// TestDeterminism: tapes with the same seed produce the same numbers, also while others are drawn from, and others produce other ones (P12.7).
func TestDeterminism(t *testing.T) {
	seen := map[uint64]int{}
	for i, seed := range seeds()[12:] {
		x, y := tape.New(seed), tape.New(seed)
		for k := range 20 {
			q := bounds()[(i+k)%len(bounds())]
			z := x.Next(q)
			tape.New(seed + 1).Next(q)
			is(t, y.Next(q), z)
		}
		z := x.Next(0)
		if other, there := seen[z]; there {
			t.Fatal("seeds", i, "and", other, "produce the same")
		}
		seen[z] = i
	}
}

// TestTwoSeeds: each seed has numbers of its own: no bit of it is lost (P12.7).
func TestTwoSeeds(t *testing.T) {
	for _, seed := range seeds() {
		for i := range 64 {
			if tape.New(seed).Next(0) == tape.New(seed^1<<i).Next(0) {
				t.Fatal("bit", i, "of", name(seed))
			}
		}
	}
}

// both is a tape and its model.
type both struct {
	x *tape.Tape
	m *model
}

// call is a call of a tape, held against its model; if it copies the tape, that is returned.
type call struct {
	name string
	do   func(t *testing.T, b both) (both, bool)
}

// nextCall is a call of Next.
func nextCall(q uint64) call {
	return call{"next " + name(q), func(t *testing.T, b both) (both, bool) {
		t.Helper()
		is(t, b.x.Next(q), b.m.next(q))
		return both{}, false
	}}
}

// drawsCall is a call of Draws.
func drawsCall(n int, q uint64) call {
	return call{"draws " + strconv.Itoa(n) + " " + name(q), func(t *testing.T, b both) (both, bool) {
		t.Helper()
		same(t, b.x.Draws(n, q), b.m.draws(n, q))
		return both{}, false
	}}
}

// atCall is a call of At.
func atCall() call {
	return call{"at", func(t *testing.T, b both) (both, bool) {
		t.Helper()
		at(t, b.x, b.m.made)
		return both{}, false
	}}
}

// copyCall is a call of Copy.
func copyCall() call {
	return call{"copy", func(t *testing.T, b both) (both, bool) {
		return both{b.x.Copy(), b.m.copied()}, true
	}}
}

// TestRows: each row of four of these calls, with each of some tapes; a call behind a copy concerns the tape and the copy in turn (P12.1 to P12.7).
func TestRows(t *testing.T) {
	calls := []call{nextCall(0), nextCall(1), nextCall(10), nextCall(1<<63 + 1), drawsCall(-1, 3), drawsCall(0, 0), drawsCall(2, 1<<63+1), drawsCall(most+1, 0), atCall(), copyCall()}
	firsts := [][]uint64{nil, {30}, {top, 7, 0}}
	seed := seedFor(top, 2)
	for code := range 10000 {
		for _, first := range firsts {
			l := []both{{tape.Of(first, seed), newModel(first, seed)}}
			done := ""
			for k, rest := 0, code; k < 4; k, rest = k+1, rest/10 {
				c := calls[rest%10]
				done += c.name + "; "
				if b, copied := c.do(t, l[k%len(l)]); copied {
					l = append(l, b)
				}
			}
			for _, b := range l {
				if b.x.At() != b.m.made || b.x.Next(0) != b.m.next(0) || b.x.Next(0) != b.m.next(0) {
					t.Fatal(done)
				}
			}
		}
	}
}

// randomCall returns a call of any kind.
func randomCall(r *rand.Rand) call {
	q := bounds()[r.Intn(len(bounds()))]
	if r.Intn(3) == 0 {
		q = r.Uint64() >> r.Intn(64)
	}
	switch r.Intn(8) {
	case 0, 1, 2:
		return nextCall(q)
	case 3, 4:
		return drawsCall(r.Intn(12)-1, q)
	case 5:
		return drawsCall([]int{math.MinInt, -1, 0, most + 1, math.MaxInt}[r.Intn(5)], q)
	case 6:
		return atCall()
	}
	return copyCall()
}

// TestManyRows: many rows of calls of all kinds, with tapes of all kinds and their copies (P12.1 to P12.7).
func TestManyRows(t *testing.T) {
	r := rand.New(rand.NewSource(1212))
	for range 3000 {
		first := make([]uint64, r.Intn(3)*r.Intn(9))
		for i := range first {
			first[i] = r.Uint64() >> r.Intn(64)
		}
		seed := seeds()[r.Intn(len(seeds()))]
		l := []both{{tape.Of(first, seed), newModel(first, seed)}}
		for range 30 {
			b, copied := randomCall(r).do(t, l[r.Intn(len(l))])
			if copied {
				l = append(l, b)
			}
		}
		for _, b := range l {
			goesOn(t, b.x, b.m)
		}
	}
}
