package wire_test

import (
	"encoding/binary"
	"math"
	"math/big"
	"math/rand"
	"slices"
	"strings"
	"testing"
	"unsafe"

	"consistory/api"
	"consistory/wire"
)

// The kinds of items; counts are numbers that are read by Count.
const (
	aByte = iota
	aNum
	anInt
	aText
	aList
	aCount
	kinds
)

// item is an item of one kind: a byte, a number, a list or a count has its numbers in list.
type item struct {
	kind int
	n    uint64
	i    int64
	text string
	list []uint64
}

// numbers are the edges of numbers: each single bit, each byte's greatest, and what is about them.
func numbers() []uint64 {
	l := []uint64{0, 1, 258, 0x0102030405060708, 0x8070605040302010, 1<<64 - 1, 1<<64 - 2}
	for b := range 64 {
		l = append(l, 1<<b, 1<<b-1, 1<<b+1, ^uint64(1<<b))
	}
	for b := range 8 {
		l = append(l, 0xFF<<(8*b))
	}
	return l
}

// integers are the edges of integers.
func integers() []int64 {
	l := []int64{math.MinInt64, math.MinInt64 + 1, -258, -2, -1, 0, 1, 2, 258, math.MaxInt64 - 1, math.MaxInt64}
	for b := range 63 {
		l = append(l, 1<<b, -1<<b, 1<<b-1, -1<<b-1, 1<<b+1)
	}
	return l
}

// every is a text with each byte once.
func every() string {
	b := make([]byte, 256)
	for i := range b {
		b[i] = byte(i)
	}
	return string(b)
}

// before are bytes that were there, behind which others are written.
func before() []string {
	return []string{"", "\x00", "\xFF", "a", "\x00\x02ab", every(), strings.Repeat("\x80", 5000)}
}

// patterned returns n bytes, unlike ones about each other.
func patterned(n int) string {
	b := make([]byte, n)
	for i := range b {
		b[i] = byte(i*7 + i>>8 + 1)
	}
	return string(b)
}

// counted returns n numbers, unlike ones about each other.
func counted(n int) []uint64 {
	l := make([]uint64, n)
	for i := range l {
		l[i] = uint64(i+1) * 0x9E3779B97F4A7C15
	}
	return l
}

// big8 are the 8 bytes of an integer, of any size, modulo 2^64, by the definition.
func big8(n *big.Int) string {
	m := new(big.Int).Mod(n, new(big.Int).Lsh(big.NewInt(1), 64))
	return string(m.FillBytes(make([]byte, 8)))
}

func num8(n uint64) string { return big8(new(big.Int).SetUint64(n)) }

func len2(n int) string { return string([]byte{byte(n / 256), byte(n % 256)}) }

// bytesOf are an item's bytes by the definition.
func bytesOf(it item) string {
	switch it.kind {
	case aByte:
		return string([]byte{byte(it.n)})
	case anInt:
		return big8(big.NewInt(it.i))
	case aText:
		return len2(len(it.text)) + it.text
	case aList:
		var b strings.Builder
		b.WriteString(len2(len(it.list)))
		for _, n := range it.list {
			b.WriteString(num8(n))
		}
		return b.String()
	}
	return num8(it.n)
}

func bytesOfAll(row []item) string {
	var b strings.Builder
	for _, it := range row {
		b.WriteString(bytesOf(it))
	}
	return b.String()
}

// write writes an item behind s by the package.
func write(t *testing.T, s string, it item) string {
	t.Helper()
	e := api.OK
	switch it.kind {
	case aByte:
		s = wire.Byte(s, byte(it.n))
	case anInt:
		s = wire.Int(s, it.i)
	case aText:
		s, e = wire.Text(s, it.text)
	case aList:
		s, e = wire.List(s, it.list)
	default:
		s = wire.Num(s, it.n)
	}
	if e != api.OK {
		t.Fatalf("item of the kind %d: error %d", it.kind, e)
	}
	return s
}

func writeAll(t *testing.T, row []item) string {
	t.Helper()
	s := ""
	for _, it := range row {
		s = write(t, s, it)
	}
	return s
}

// read reads an item of a kind by the package; most is for a count alone.
func read(r *wire.Reader, kind, most int) (it item, e api.Errno) {
	it.kind = kind
	switch kind {
	case aByte:
		var b byte
		b, e = r.Byte()
		it.n = uint64(b)
	case aNum:
		it.n, e = r.Num()
	case anInt:
		it.i, e = r.Int()
	case aText:
		it.text, e = r.Text()
	case aList:
		it.list, e = r.List()
	case aCount:
		var n int
		n, e = r.Count(most)
		it.n = uint64(n)
	}
	return it, e
}

func equal(a, b item) bool {
	return a.kind == b.kind && a.n == b.n && a.i == b.i && a.text == b.text && slices.Equal(a.list, b.list)
}

// model reads by the definition: it is what the package's reader is held against.
type model struct {
	rest  string
	wrong api.Errno
}

func (m *model) fail(e api.Errno) api.Errno {
	m.rest, m.wrong = "", e
	return e
}

func (m *model) end() api.Errno {
	if m.wrong == api.OK && m.rest != "" {
		m.fail(api.ErrLong)
	}
	return m.wrong
}

func (m *model) read(kind, most int) (item, api.Errno) {
	none := item{kind: kind}
	if m.wrong != api.OK {
		return none, m.wrong
	}
	size, head := 8, 0
	switch kind {
	case aByte:
		size = 1
	case aText, aList:
		if len(m.rest) < 2 {
			return none, m.fail(api.ErrShort)
		}
		size, head = int(m.rest[0])*256+int(m.rest[1]), 2
		if kind == aText && size > api.MaxText || kind == aList && size > api.MaxNums {
			return none, m.fail(api.ErrTooLarge)
		}
		if kind == aList {
			size *= 8
		}
	}
	if len(m.rest) < head+size {
		return none, m.fail(api.ErrShort)
	}
	it := parsed(kind, m.rest[head:head+size])
	if kind == aCount && new(big.Int).SetUint64(it.n).Cmp(big.NewInt(int64(most))) > 0 {
		return none, m.fail(api.ErrForm)
	}
	m.rest = m.rest[head+size:]
	return it, api.OK
}

// parsed returns the item with these bytes, the length of a text or a list not among them.
func parsed(kind int, s string) item {
	it := item{kind: kind}
	switch kind {
	case aByte:
		it.n = uint64(s[0])
	case anInt:
		n := new(big.Int).SetBytes([]byte(s))
		if s[0] >= 0x80 {
			n.Sub(n, new(big.Int).Lsh(big.NewInt(1), 64))
		}
		it.i = n.Int64()
	case aText:
		it.text = s
	case aList:
		for ; s != ""; s = s[8:] {
			it.list = append(it.list, binary.BigEndian.Uint64([]byte(s)))
		}
	default:
		it.n = binary.BigEndian.Uint64([]byte(s))
	}
	return it
}

// state tells what Left and Wrong tell, and that telling it changes nothing.
func state(t *testing.T, r *wire.Reader, left int, wrong api.Errno) {
	t.Helper()
	for range 2 {
		if got := r.Left(); got != left {
			t.Fatalf("Left: %d, not %d", got, left)
		}
		if got := r.Wrong(); got != wrong {
			t.Fatalf("Wrong: %d, not %d", got, wrong)
		}
	}
}

// reads tells that the next item is read, and how many bytes are left then.
func reads(t *testing.T, r *wire.Reader, want item, most, left int) {
	t.Helper()
	if got, e := read(r, want.kind, most); e != api.OK || !equal(got, want) {
		t.Fatalf("kind %d: error %d, % X, not % X", want.kind, e, bytesOf(got), bytesOf(want))
	}
	state(t, r, left, api.OK)
}

// fails tells that the next item is an error, beside which there is nothing, and nothing is left.
func fails(t *testing.T, r *wire.Reader, kind, most int, want api.Errno) {
	t.Helper()
	got, e := read(r, kind, most)
	if e != want || !equal(got, item{kind: kind}) {
		t.Fatalf("kind %d: error %d, not %d; % X", kind, e, want, bytesOf(got))
	}
	state(t, r, 0, want)
}

// ends tells what End returns, and that it persists.
func ends(t *testing.T, r *wire.Reader, want api.Errno) {
	t.Helper()
	for range 2 {
		if e := r.End(); e != want {
			t.Fatalf("End: %d, not %d", e, want)
		}
		state(t, r, 0, want)
	}
}

// TestExamples: the chapter's own examples.
func TestExamples(t *testing.T) {
	s := wire.Int(wire.Num(wire.Byte("", 7), 258), -2)
	s, e := wire.Text(s, "ab")
	if e != api.OK {
		t.Fatal("Text:", e)
	}
	s, e = wire.List(s, []uint64{5})
	want := "\x07\x00\x00\x00\x00\x00\x00\x01\x02\xFF\xFF\xFF\xFF\xFF\xFF\xFF\xFE\x00\x02\x61\x62\x00\x01\x00\x00\x00\x00\x00\x00\x00\x05"
	if e != api.OK || s != want {
		t.Fatalf("% X, error %d", s, e)
	}
	r := wire.Open(s)
	state(t, r, 31, api.OK)
	reads(t, r, item{kind: aByte, n: 7}, 0, 30)
	reads(t, r, item{kind: aNum, n: 258}, 0, 22)
	reads(t, r, item{kind: anInt, i: -2}, 0, 14)
	reads(t, r, item{kind: aText, text: "ab"}, 0, 10)
	reads(t, r, item{kind: aList, list: []uint64{5}}, 0, 0)
	ends(t, r, api.OK)

	r = wire.Open("\x00\x02\x61")
	fails(t, r, aText, 0, api.ErrShort)
	fails(t, r, aNum, 0, api.ErrShort)

	fails(t, wire.Open("\x08\x01"), aText, 0, api.ErrTooLarge)

	r = wire.Open("\x07\x07")
	reads(t, r, item{kind: aByte, n: 7}, 0, 1)
	ends(t, r, api.ErrLong)
}

// TestByte: P9.1 and P9.2 for each byte.
func TestByte(t *testing.T) {
	for b := range 256 {
		for _, s := range before() {
			if got, want := wire.Byte(s, byte(b)), s+string([]byte{byte(b)}); got != want {
				t.Fatalf("Byte %d behind % X: % X", b, s, got)
			}
		}
		r := wire.Open(string([]byte{byte(b), 1, 2}))
		reads(t, r, item{kind: aByte, n: uint64(b)}, 0, 2)
	}
	fails(t, wire.Open(""), aByte, 0, api.ErrShort)
}

// TestNum: P9.1 and P9.2 for numbers, cut at each of their bytes too.
func TestNum(t *testing.T) {
	for _, n := range numbers() {
		want := num8(n)
		for _, s := range before() {
			if got := wire.Num(s, n); got != s+want {
				t.Fatalf("Num %d behind % X: % X", n, s, got)
			}
		}
		reads(t, wire.Open(want), item{kind: aNum, n: n}, 0, 0)
		reads(t, wire.Open(want+"xyz"), item{kind: aNum, n: n}, 0, 3)
		for cut := range 8 {
			fails(t, wire.Open(want[:cut]), aNum, 0, api.ErrShort)
		}
	}
}

// TestInt: P9.1 and P9.2 for integers, cut at each of their bytes too.
func TestInt(t *testing.T) {
	for _, n := range integers() {
		want := big8(big.NewInt(n))
		for _, s := range before() {
			if got := wire.Int(s, n); got != s+want {
				t.Fatalf("Int %d behind % X: % X", n, s, got)
			}
		}
		reads(t, wire.Open(want), item{kind: anInt, i: n}, 0, 0)
		reads(t, wire.Open(want+"\xFF\x00"), item{kind: anInt, i: n}, 0, 2)
		for cut := range 8 {
			fails(t, wire.Open(want[:cut]), anInt, 0, api.ErrShort)
		}
	}
}

// TestText: P9.1 and P9.2 for texts of each length up to MaxText, and of those beyond that are refused, also where two bytes could tell the length, or only part of it.
func TestText(t *testing.T) {
	for n := range api.MaxText + 1 {
		text := patterned(n)
		s := "s"
		if n%97 == 0 || n > api.MaxText-3 {
			s = every()
		}
		got, e := wire.Text(s, text)
		if e != api.OK || got != s+len2(n)+text {
			t.Fatalf("Text of %d bytes: error %d, %d bytes", n, e, len(got))
		}
		r := wire.Open(got[len(s):] + "behind")
		reads(t, r, item{kind: aText, text: text}, 0, 6)
	}
	for _, text := range []string{"\x00", "\x00\x00", "\xFF", every(), "ä\xC3", strings.Repeat("\x00", api.MaxText), strings.Repeat("\xFF", api.MaxText), strings.Repeat(every(), api.MaxText/256)} {
		got, e := wire.Text("", text)
		if e != api.OK || got != len2(len(text))+text {
			t.Fatalf("Text of %d bytes: error %d, %d bytes", len(text), e, len(got))
		}
		reads(t, wire.Open(got), item{kind: aText, text: text}, 0, 0)
	}
	for _, n := range []int{api.MaxText + 1, api.MaxText + 2, 4096, 65535, 65536, 65537, 65536 + api.MaxText, 1 << 20} {
		for _, s := range before() {
			if got, e := wire.Text(s, patterned(n)); e != api.ErrTooLarge || got != s {
				t.Fatalf("Text of %d bytes behind %d: error %d, %d bytes", n, len(s), e, len(got))
			}
		}
	}
}

// TestList: as TestText, for lists.
func TestList(t *testing.T) {
	for n := range api.MaxNums + 1 {
		list := counted(n)
		s := "s"
		if n%97 == 0 || n > api.MaxNums-3 {
			s = every()
		}
		want := bytesOf(item{kind: aList, list: list})
		got, e := wire.List(s, list)
		if e != api.OK || got != s+want {
			t.Fatalf("List of %d: error %d, %d bytes", n, e, len(got))
		}
		reads(t, wire.Open(want+"behind"), item{kind: aList, list: list}, 0, 6)
	}
	if got, e := wire.List("a", nil); e != api.OK || got != "a\x00\x00" {
		t.Fatalf("no List: error %d, % X", e, got)
	}
	list := numbers()
	got, e := wire.List("", list)
	if e != api.OK || got != bytesOf(item{kind: aList, list: list}) {
		t.Fatalf("List: error %d", e)
	}
	reads(t, wire.Open(got), item{kind: aList, list: list}, 0, 0)
	for _, n := range []int{api.MaxNums + 1, api.MaxNums + 2, 8192, 65535, 65536, 65537, 65536 + api.MaxNums} {
		for _, s := range before() {
			if got, e := wire.List(s, counted(n)); e != api.ErrTooLarge || got != s {
				t.Fatalf("List of %d behind %d bytes: error %d, %d bytes", n, len(s), e, len(got))
			}
		}
	}
}

// TestLengths: each length that two bytes can tell, with none, few and many bytes behind it, for texts and lists: too large goes ahead of too short.
func TestLengths(t *testing.T) {
	many := strings.Repeat("many", 1<<14)
	for n := range 1 << 16 {
		all := many
		if n%509 > 3 {
			all = many[:8*api.MaxNums+8]
		}
		for _, behind := range []string{"", "\x00", "few", all} {
			s := len2(n) + behind
			for kind, most := range map[int]int{aText: api.MaxText, aList: api.MaxNums} {
				size := n
				if kind == aList {
					size = 8 * n
				}
				r := wire.Open(s[:min(len(s), 2+size+1)])
				switch {
				case n > most:
					fails(t, r, kind, 0, api.ErrTooLarge)
				case size > len(behind):
					fails(t, r, kind, 0, api.ErrShort)
				default:
					want, _ := (&model{rest: s}).read(kind, 0)
					reads(t, r, want, 0, min(len(behind)-size, 1))
				}
			}
		}
	}
}

// TestLengthsShort: fewer than two bytes of a length, and fewer bytes than it says, by each number of them.
func TestLengthsShort(t *testing.T) {
	for _, kind := range []int{aText, aList} {
		for _, s := range []string{"", "\x00", "\x01", "\x08", "\x09", "\xFF"} {
			fails(t, wire.Open(s), kind, 0, api.ErrShort)
		}
	}
	text := bytesOf(item{kind: aText, text: patterned(api.MaxText)})
	for cut := range len(text) {
		fails(t, wire.Open(text[:cut]), aText, 0, api.ErrShort)
	}
	list := bytesOf(item{kind: aList, list: counted(api.MaxNums)})
	for cut := range len(list) {
		fails(t, wire.Open(list[:cut]), aList, 0, api.ErrShort)
	}
}

// TestCount: the number itself, one less, below 0, and numbers from 2^63 on; too short goes ahead of all that.
func TestCount(t *testing.T) {
	mosts := []int{math.MinInt64, -256, -2, -1, 0, 1, 2, 255, 256, 1 << 20, math.MaxInt64 - 1, math.MaxInt64}
	all := numbers()
	for _, n := range all {
		if n <= math.MaxInt64 {
			mosts = append(mosts, int(n), int(n)-1)
		}
	}
	for _, n := range all {
		s := num8(n)
		for _, most := range mosts {
			r := wire.Open(s + "\x07")
			if new(big.Int).SetUint64(n).Cmp(big.NewInt(int64(most))) > 0 {
				fails(t, r, aCount, most, api.ErrForm)
				fails(t, r, aCount, math.MaxInt64, api.ErrForm)
				continue
			}
			reads(t, r, item{kind: aCount, n: n}, most, 1)
			reads(t, r, item{kind: aByte, n: 7}, 0, 0)
		}
		for cut := range 8 {
			for _, most := range []int{math.MinInt64, -1, 0, 1, math.MaxInt64} {
				fails(t, wire.Open(s[:cut]), aCount, most, api.ErrShort)
			}
		}
	}
}

// TestEnd: with bytes left, and with none.
func TestEnd(t *testing.T) {
	ends(t, wire.Open(""), api.OK)
	for _, s := range []string{"\x00", "\xFF", "ab", every()} {
		ends(t, wire.Open(s), api.ErrLong)
	}
	for n := range 5 {
		r := wire.Open("\x01\x02\x03\x04")
		for i := range n {
			reads(t, r, item{kind: aByte, n: uint64(i + 1)}, 0, 3-i)
		}
		if n < 4 {
			ends(t, r, api.ErrLong)
			continue
		}
		ends(t, r, api.OK)
		// That all was read is no error: what is read behind it is missing.
		fails(t, r, aByte, 0, api.ErrShort)
		ends(t, r, api.ErrShort)
	}
}

// broken are readers, each with its first error, and how they came by it.
func broken() map[string]func(t *testing.T) (*wire.Reader, api.Errno) {
	first := func(s string, kind, most int, e api.Errno) func(t *testing.T) (*wire.Reader, api.Errno) {
		return func(t *testing.T) (*wire.Reader, api.Errno) {
			r := wire.Open("\x05" + s)
			reads(t, r, item{kind: aByte, n: 5}, 0, len(s))
			fails(t, r, kind, most, e)
			return r, e
		}
	}
	long := strings.Repeat("\x00", 64)
	return map[string]func(t *testing.T) (*wire.Reader, api.Errno){
		"Byte":              first("", aByte, 0, api.ErrShort),
		"Num":               first(long[:7], aNum, 0, api.ErrShort),
		"Int":               first(long[:7], anInt, 0, api.ErrShort),
		"Count":             first(long[:7], aCount, 9, api.ErrShort),
		"Count, too great":  first("\x00\x00\x00\x00\x00\x00\x00\x0A"+long, aCount, 9, api.ErrForm),
		"Count, below 0":    first(long, aCount, -1, api.ErrForm),
		"Text, no length":   first("\x00", aText, 0, api.ErrShort),
		"Text, too short":   first("\x00\x41"+long, aText, 0, api.ErrShort),
		"Text, too large":   first("\x08\x01"+long, aText, 0, api.ErrTooLarge),
		"List, no length":   first("\x00", aList, 0, api.ErrShort),
		"List, too short":   first("\x00\x09"+long, aList, 0, api.ErrShort),
		"List, too large":   first("\x04\x01"+long, aList, 0, api.ErrTooLarge),
		"List, in a number": first("\x00\x02"+long[:15], aList, 0, api.ErrShort),
		"End": func(t *testing.T) (*wire.Reader, api.Errno) {
			r := wire.Open(long)
			ends(t, r, api.ErrLong)
			return r, api.ErrLong
		},
	}
}

// TestFirstErrorPersists: each call behind each error, and each row of two calls.
func TestFirstErrorPersists(t *testing.T) {
	for name, open := range broken() {
		t.Run(name, func(t *testing.T) {
			for a := range kinds + 1 {
				for b := range kinds + 1 {
					r, e := open(t)
					for _, call := range []int{a, b} {
						if call == kinds {
							ends(t, r, e)
							continue
						}
						for _, most := range []int{-1, 0, math.MaxInt64} {
							fails(t, r, call, most, e)
						}
					}
				}
			}
		})
	}
}

// TestNil: each call on a reader that is nil, and on one that was not opened: that has no bytes.
func TestNil(t *testing.T) {
	var r *wire.Reader
	for kind := range kinds {
		for _, most := range []int{-1, 0, math.MaxInt64} {
			fails(t, r, kind, most, api.ErrNil)
			fails(t, new(wire.Reader), kind, most, api.ErrShort)
		}
	}
	ends(t, r, api.ErrNil)
	ends(t, new(wire.Reader), api.OK)
}

// randomItem returns an item of any kind, most of them short.
func randomItem(rng *rand.Rand) item {
	it := item{kind: rng.Intn(kinds)}
	size := rng.Intn(6)
	if rng.Intn(40) == 0 {
		size = rng.Intn(300)
	}
	switch it.kind {
	case aByte:
		it.n = uint64(rng.Intn(256))
	case aNum:
		it.n = randomNum(rng)
	case anInt:
		it.i = int64(randomNum(rng))
	case aCount:
		it.n = randomNum(rng) >> 1
	case aText:
		b := make([]byte, size)
		rng.Read(b)
		it.text = string(b)
	case aList:
		for range size {
			it.list = append(it.list, randomNum(rng))
		}
	}
	return it
}

// randomNum returns a number of any length, or an edge.
func randomNum(rng *rand.Rand) uint64 {
	if edges := numbers(); rng.Intn(3) == 0 {
		return edges[rng.Intn(len(edges))]
	}
	return rng.Uint64() >> rng.Intn(64)
}

func randomRow(rng *rand.Rand) []item {
	row := make([]item, rng.Intn(9))
	for i := range row {
		row[i] = randomItem(rng)
	}
	return row
}

// rows are many rows of items of all kinds: random ones, each kind alone, each two and three kinds, all edges.
func rows() [][]item {
	rng := rand.New(rand.NewSource(9))
	l := [][]item{nil}
	for range 2000 {
		l = append(l, randomRow(rng))
	}
	of := func(kind int) item {
		for {
			if it := randomItem(rng); it.kind == kind {
				return it
			}
		}
	}
	for a := range kinds {
		l = append(l, []item{of(a)})
		for b := range kinds {
			l = append(l, []item{of(a), of(b)})
			for c := range kinds {
				l = append(l, []item{of(a), of(b), of(c)})
			}
		}
	}
	var edges []item
	for _, n := range numbers() {
		edges = append(edges, item{kind: aNum, n: n}, item{kind: aByte, n: n % 256})
	}
	for _, n := range integers() {
		edges = append(edges, item{kind: anInt, i: n})
	}
	for chunk := range slices.Chunk(edges, 30) {
		l = append(l, chunk)
	}
	return l
}

// TestBack: P9.3.
func TestBack(t *testing.T) {
	all := rows()
	all = append(all, []item{
		{kind: aText, text: patterned(api.MaxText)}, {kind: aList, list: counted(api.MaxNums)},
		{kind: aText}, {kind: aList}, {kind: aText, text: every()}, {kind: aByte, n: 255},
	})
	for _, row := range all {
		s := writeAll(t, row)
		if want := bytesOfAll(row); s != want {
			t.Fatalf("% X, not % X", s, want)
		}
		r := wire.Open(s)
		state(t, r, len(s), api.OK)
		left := len(s)
		for _, it := range row {
			left -= len(bytesOf(it))
			reads(t, r, it, int(it.n), left)
		}
		ends(t, r, api.OK)
	}
}

// alike returns another item of the same kind and length.
func alike(rng *rand.Rand, it item) item {
	other := it
	switch it.kind {
	case aByte:
		other.n = uint64(rng.Intn(256))
	case aNum:
		other.n = randomNum(rng)
	case aCount:
		other.n = randomNum(rng) >> 1
	case anInt:
		other.i = int64(randomNum(rng))
	case aText:
		b := make([]byte, len(it.text))
		rng.Read(b)
		other.text = string(b)
	case aList:
		other.list = nil
		for range it.list {
			other.list = append(other.list, randomNum(rng))
		}
	}
	return other
}

// TestFixedLength: P9.4 for rows of the same kinds and lengths.
func TestFixedLength(t *testing.T) {
	rng := rand.New(rand.NewSource(10))
	for _, row := range rows() {
		s := writeAll(t, row)
		for range 4 {
			other := slices.Clone(row)
			for i := range other {
				if rng.Intn(2) == 0 {
					other[i] = alike(rng, row[i])
				}
			}
			same := slices.EqualFunc(row, other, equal)
			got := writeAll(t, other)
			if len(got) != len(s) || (got == s) != same {
				t.Fatalf("% X, % X: %d and %d bytes, the same: %v", bytesOfAll(row), bytesOfAll(other), len(s), len(got), got == s)
			}
		}
	}
}

// changed returns the items that differ from one in one place only.
func changed(it item) []item {
	var l []item
	for b := range 64 {
		other := it
		switch it.kind {
		case aByte:
			other.n ^= 1 << (b % 8)
		case aNum:
			other.n ^= 1 << b
		case aCount:
			other.n ^= 1 << (b % 63)
		case anInt:
			other.i ^= 1 << b
		case aText:
			if len(it.text) == 0 {
				return nil
			}
			text := []byte(it.text)
			text[b%len(text)] ^= 1 << (b / 8)
			other.text = string(text)
		case aList:
			if len(it.list) == 0 {
				return nil
			}
			other.list = slices.Clone(it.list)
			other.list[b%len(it.list)] ^= 1 << b
		}
		l = append(l, other)
	}
	return l
}

// TestDifferent: P9.4 for rows that differ in one bit, and for those that have the same bytes of values but other lengths.
func TestDifferent(t *testing.T) {
	for _, row := range rows()[:400] {
		s := writeAll(t, row)
		for i, it := range row {
			for _, other := range changed(it) {
				one := slices.Clone(row)
				one[i] = other
				if got := writeAll(t, one); len(got) != len(s) || got == s {
					t.Fatalf("% X: what differs in a bit has % X", s, got)
				}
			}
		}
	}
	seen := map[string]bool{}
	for cut := range 11 {
		s := writeAll(t, []item{{kind: aText, text: "\x00\x00\x00\x00\x00\x00\x00\x00\x00\x00"[:cut]}, {kind: aText, text: "\x00\x00\x00\x00\x00\x00\x00\x00\x00\x00"[cut:]}})
		if seen[s] {
			t.Fatal("two texts, cut elsewhere: the same bytes")
		}
		seen[s] = true
	}
}

// TestTruncated: P9.5, at every place of each row.
func TestTruncated(t *testing.T) {
	for _, row := range rows() {
		s := writeAll(t, row)
		for cut := range len(s) {
			r, left := wire.Open(s[:cut]), cut
			for _, it := range row {
				size := len(bytesOf(it))
				if size > left {
					fails(t, r, it.kind, int(it.n), api.ErrShort)
					break
				}
				left -= size
				reads(t, r, it, int(it.n), left)
			}
			ends(t, r, api.ErrShort)
		}
	}
}

// TestTruncatedBetween: P9.5 where the cut is between two items: with those before it everything was read.
func TestTruncatedBetween(t *testing.T) {
	for _, row := range rows() {
		for n := range row {
			s := writeAll(t, row[:n])
			r, left := wire.Open(writeAll(t, row)[:len(s)]), len(s)
			for _, it := range row[:n] {
				left -= len(bytesOf(it))
				reads(t, r, it, int(it.n), left)
			}
			ends(t, r, api.OK)
		}
	}
}

// randomBytes returns bytes that are often those of items, and often are not.
func randomBytes(rng *rand.Rand) string {
	b := make([]byte, rng.Intn(60))
	rng.Read(b)
	for i := range b {
		if rng.Intn(2) == 0 {
			b[i] = byte(rng.Intn(10))
		}
		if rng.Intn(3) == 0 {
			b[i] = 0
		}
	}
	return string(b)
}

// TestExact: P9.6 for any bytes: what is read from them, written again, gives the bytes that were moved past.
func TestExact(t *testing.T) {
	rng := rand.New(rand.NewSource(11))
	for range 40000 {
		s := randomBytes(rng)
		r, again := wire.Open(s), ""
		for r.Wrong() == api.OK {
			it, e := read(r, rng.Intn(kinds), math.MaxInt64)
			if e != api.OK {
				break
			}
			again = write(t, again, it)
			if again != s[:len(s)-r.Left()] {
				t.Fatalf("% X: % X", s, again)
			}
		}
	}
}

// TestRandomCalls: any calls on any bytes, held against the definition.
func TestRandomCalls(t *testing.T) {
	rng := rand.New(rand.NewSource(12))
	mosts := []int{math.MinInt64, -1, 0, 1, 5, 255, 1 << 40, math.MaxInt64}
	for range 60000 {
		s := randomBytes(rng)
		r, m := wire.Open(s), &model{rest: s}
		for range 12 {
			if call := rng.Intn(4 * kinds); call == 0 {
				if got, want := r.End(), m.end(); got != want {
					t.Fatalf("% X: End: %d, not %d", s, got, want)
				}
			} else {
				kind, most := call%kinds, mosts[rng.Intn(len(mosts))]
				got, e := read(r, kind, most)
				want, f := m.read(kind, most)
				if e != f || !equal(got, want) {
					t.Fatalf("% X, kind %d: % X, error %d, not % X, error %d", s, kind, bytesOf(got), e, bytesOf(want), f)
				}
			}
			state(t, r, len(m.rest), m.wrong)
		}
	}
}

// TestTwoReaders: readers of the same bytes, and copies of one, go their own ways; errors too.
func TestTwoReaders(t *testing.T) {
	s := "\x01\x02\x03"
	a, b := wire.Open(s), wire.Open(s)
	reads(t, a, item{kind: aByte, n: 1}, 0, 2)
	fails(t, a, aNum, 0, api.ErrShort)
	state(t, b, 3, api.OK)
	reads(t, b, item{kind: aByte, n: 1}, 0, 2)
	c := *b
	reads(t, &c, item{kind: aByte, n: 2}, 0, 1)
	ends(t, &c, api.ErrLong)
	reads(t, b, item{kind: aByte, n: 2}, 0, 1)
}

// within reports whether two texts share memory.
func within(a, b string) bool {
	if a == "" || b == "" {
		return false
	}
	x, y := uintptr(unsafe.Pointer(unsafe.StringData(a))), uintptr(unsafe.Pointer(unsafe.StringData(b)))
	return x < y+uintptr(len(b)) && y < x+uintptr(len(a))
}

// fresh returns a text of new memory, and that memory.
func fresh(s string) (string, []byte) {
	b := []byte(s)
	return unsafe.String(unsafe.SliceData(b), len(b)), b
}

// TestWritersKeepArguments: R1: lists that are handed in are not changed, also beyond their length, and no answer shares memory with what was.
func TestWritersKeepArguments(t *testing.T) {
	whole := counted(api.MaxNums + 20)
	kept := slices.Clone(whole)
	for _, n := range []int{0, 1, 3, 255, api.MaxNums, api.MaxNums + 1} {
		s, e := wire.List("abc", whole[:n])
		if !slices.Equal(whole, kept) {
			t.Fatalf("List of %d changed it", n)
		}
		if e == api.OK {
			want := strings.Clone(s)
			clear(whole)
			if s != want {
				t.Fatalf("List of %d shares its memory", n)
			}
			copy(whole, kept)
		}
	}
	s, text, long := patterned(40), patterned(50), patterned(api.MaxText+1)
	list := counted(3)
	texts := map[string]func() string{
		"Byte":             func() string { return wire.Byte(s, 1) },
		"Num":              func() string { return wire.Num(s, 1) },
		"Int":              func() string { return wire.Int(s, 1) },
		"Text":             func() string { a, _ := wire.Text(s, text); return a },
		"Text of nothing":  func() string { a, _ := wire.Text(s, ""); return a },
		"Text first":       func() string { a, _ := wire.Text("", text); return a },
		"Text, too large":  func() string { a, _ := wire.Text(s, long); return a },
		"List":             func() string { a, _ := wire.List(s, list); return a },
		"List of nothing":  func() string { a, _ := wire.List(s, nil); return a },
		"List, too large":  func() string { a, _ := wire.List(s, kept); return a },
		"List, first":      func() string { a, _ := wire.List("", list); return a },
		"Byte, first":      func() string { return wire.Byte("", 200) },
		"Byte, first of 0": func() string { return wire.Byte("", 0) },
	}
	for name, call := range texts {
		a, b := call(), call()
		if within(a, s) || within(a, text) || within(a, long) {
			t.Error(name, "shares memory with what was handed in")
		}
		if a != b || len(a) > 1 && within(a, b) {
			t.Error(name, "twice: another answer, or the same memory")
		}
	}
	if s != patterned(40) || text != patterned(50) || long != patterned(api.MaxText+1) || !slices.Equal(list, counted(3)) {
		t.Error("what was handed in is changed")
	}
}

// TestReadersShareNothing: R1: an answer shares no memory with the bytes that were handed in, nor with what is read later, and may be written to.
func TestReadersShareNothing(t *testing.T) {
	row := []item{{kind: aList, list: counted(4)}, {kind: aText, text: patterned(30)}, {kind: aList, list: counted(5)}, {kind: aText, text: patterned(31)}, {kind: aNum, n: 9}}
	s, memory := fresh(bytesOfAll(row))
	r, other := wire.Open(s), wire.Open(s)
	first, _ := r.List()
	copied := *r
	text, _ := r.Text()
	same, _ := copied.Text()
	again, _ := other.List()
	for _, l := range [][]uint64{first, again} {
		l = append(l, 1, 2, 3)
		for i := range l {
			l[i] = 1<<64 - 1
		}
	}
	reads(t, other, row[1], 0, len(s)-66)
	second, _ := r.List()
	later, _ := r.Text()
	if !slices.Equal(second, counted(5)) || text != patterned(30) || later != patterned(31) {
		t.Error("what is read later hangs on what was done with an answer")
	}
	if within(text, s) || within(later, s) || within(text, later) || text != same || within(text, same) {
		t.Error("a text shares memory")
	}
	if string(memory) != bytesOfAll(row) {
		t.Error("the bytes that were handed in are changed")
	}
	clear(memory)
	if text != patterned(30) || later != patterned(31) || !slices.Equal(second, counted(5)) {
		t.Error("an answer hangs on the bytes that were handed in")
	}
	reads(t, r, row[4], 0, 0)
	reads(t, other, row[2], 0, 41)
}
