package entry_test

import (
	"encoding/binary"
	"fmt"
	"math"
	"math/rand"
	"reflect"
	"slices"
	"sort"
	"strings"
	"testing"
	"unsafe"

	"consistory/api"
	"consistory/entry"
)

// greatest is how many members there may be.
const greatest = 255

// kinds are the four Kinds.
var kinds = []uint8{api.Load, api.Query, api.Begin, api.Seal}

// own are the fields that a Kind has.
var own = map[uint8][]string{
	api.Load:  {"Kind", "Coms"},
	api.Query: {"Kind", "ID", "X"},
	api.Begin: {"Kind", "Epoch", "Next"},
	api.Seal:  {"Kind", "Epoch", "Deals"},
}

// The bytes of an entry by the definition. For entries that are not well-formed they mean nothing.

func num(n uint64) string { return string(binary.BigEndian.AppendUint64(nil, n)) }

func count(n int) string { return string([]byte{byte(n)}) }

func listBytes(list []uint64) string {
	b := binary.BigEndian.AppendUint16(nil, uint16(len(list)))
	for _, n := range list {
		b = binary.BigEndian.AppendUint64(b, n)
	}
	return string(b)
}

func listsBytes(lists [][]uint64) string {
	var b strings.Builder
	b.WriteString(count(len(lists)))
	for _, list := range lists {
		b.WriteString(listBytes(list))
	}
	return b.String()
}

func bytesOf(e api.Entry) string {
	var b strings.Builder
	b.WriteByte(e.Kind)
	switch e.Kind {
	case api.Load:
		b.WriteString(listsBytes(e.Coms))
	case api.Query:
		b.WriteString(num(uint64(e.ID)) + count(len(e.X)))
		for _, x := range e.X {
			b.WriteString(num(uint64(x)))
		}
	case api.Begin:
		b.WriteString(num(uint64(e.Epoch)) + count(len(e.Next)))
		for _, n := range e.Next {
			b.WriteString(num(uint64(n)))
		}
	case api.Seal:
		b.WriteString(num(uint64(e.Epoch)) + count(len(e.Deals)))
		for _, d := range e.Deals {
			b.WriteString(num(uint64(d.Dealer)) + listsBytes(d.Col))
		}
	}
	return b.String()
}

// well reports whether an entry is well-formed, by the definition.
func well(e api.Entry) bool {
	fields, known := own[e.Kind]
	if !known {
		return false
	}
	v := reflect.ValueOf(e)
	for i := range v.NumField() {
		f := v.Field(i)
		set := !f.IsZero()
		if f.Kind() == reflect.Slice {
			set = f.Len() > 0
			if f.Len() > greatest {
				return false
			}
		}
		if set && !slices.Contains(fields, v.Type().Field(i).Name) {
			return false
		}
	}
	numbers := append([]int{e.ID, e.Epoch}, e.Next...)
	for _, d := range e.Deals {
		numbers = append(numbers, d.Dealer)
		if len(d.Col) > greatest {
			return false
		}
	}
	return slices.Min(numbers) >= 0 && slices.Max(numbers) <= api.MaxNumber
}

// normal returns an entry of the same members in memory of its own, where no list is one without members.
func normal(e api.Entry) api.Entry {
	lists := func(from [][]uint64) (to [][]uint64) {
		for _, list := range from {
			to = append(to, append([]uint64(nil), list...))
		}
		return to
	}
	n := api.Entry{Kind: e.Kind, ID: e.ID, Epoch: e.Epoch, X: append([]int64(nil), e.X...), Coms: lists(e.Coms), Next: append([]int(nil), e.Next...)}
	for _, d := range e.Deals {
		n.Deals = append(n.Deals, api.Dealt{Dealer: d.Dealer, Col: lists(d.Col)})
	}
	return n
}

func equal(a, b api.Entry) bool { return reflect.DeepEqual(normal(a), normal(b)) }

// parsed returns the entry with these bytes, by the definition: it reads without asking how many bytes are left, and is not one if that panics, or if its bytes are others.
func parsed(s string) (e api.Entry, ok bool) {
	defer func() {
		if recover() != nil {
			e, ok = api.Entry{}, false
		}
	}()
	rest := s
	take := func(n int) []byte {
		taken := rest[:n]
		rest = rest[n:]
		return []byte(taken)
	}
	n64 := func() uint64 { return binary.BigEndian.Uint64(take(8)) }
	lists := func() (l [][]uint64) {
		for range int(take(1)[0]) {
			list := make([]uint64, 0)
			for range binary.BigEndian.Uint16(take(2)) {
				list = append(list, n64())
			}
			l = append(l, list)
		}
		return l
	}
	e.Kind = take(1)[0]
	switch e.Kind {
	case api.Load:
		e.Coms = lists()
	case api.Query:
		e.ID = int(n64())
		for range int(take(1)[0]) {
			e.X = append(e.X, int64(n64()))
		}
	case api.Begin:
		e.Epoch = int(n64())
		for range int(take(1)[0]) {
			e.Next = append(e.Next, int(n64()))
		}
	case api.Seal:
		e.Epoch = int(n64())
		for range int(take(1)[0]) {
			dealer := int(n64())
			e.Deals = append(e.Deals, api.Dealt{Dealer: dealer, Col: lists()})
		}
	}
	return e, rest == "" && well(e) && bytesOf(e) == s
}

// is tells what all calls answer about an entry, by its bytes or by the error of Encode.
func is(t *testing.T, e api.Entry, want string, wrong api.Errno) {
	t.Helper()
	got, f := entry.Encode(e)
	if f != wrong || got != want {
		t.Fatalf("Encode of %s: error %d, not %d; % X, not % X", told(e), f, wrong, short(got), short(want))
	}
	if may := entry.May(e); may != (wrong == api.OK) {
		t.Fatalf("May of %s: %v", told(e), may)
	}
	if !entry.Same(e, e) || !entry.Same(e, entry.Copy(e)) || !equal(e, entry.Copy(e)) {
		t.Fatalf("%s is not the same as itself, or as its copy", told(e))
	}
	if wrong != api.OK {
		return
	}
	back, f := entry.Decode(want)
	if f != api.OK || !equal(back, e) || !entry.Same(back, e) {
		t.Fatalf("Decode of % X: error %d, %s, not %s", short(want), f, told(back), told(e))
	}
}

// fails tells that an entry is refused by Encode.
func fails(t *testing.T, e api.Entry, wrong api.Errno) {
	t.Helper()
	is(t, e, "", wrong)
}

// holds tells what all calls answer about an entry, held against the definition.
func holds(t *testing.T, e api.Entry) {
	t.Helper()
	if !well(e) {
		fails(t, e, api.ErrForm)
		return
	}
	if s := bytesOf(e); len(s) <= api.MaxText {
		is(t, e, s, api.OK)
		return
	}
	fails(t, e, api.ErrTooLarge)
}

// decodes tells what Decode answers about any bytes, held against the definition.
func decodes(t *testing.T, s string) {
	t.Helper()
	got, f := entry.Decode(s)
	want, ok := parsed(s)
	wrong := api.OK
	switch {
	case len(s) > api.MaxText:
		want, wrong = api.Entry{}, api.ErrTooLarge
	case !ok:
		want, wrong = api.Entry{}, api.ErrForm
	}
	if f != wrong || !equal(got, want) {
		t.Fatalf("Decode of % X: error %d, not %d; %s, not %s", short(s), f, wrong, told(got), told(want))
	}
	if again, g := entry.Encode(got); f == api.OK && (g != api.OK || again != s) {
		t.Fatalf("Encode of Decode of % X: error %d, % X", short(s), g, short(again))
	}
}

// refuses tells that bytes are no entry's.
func refuses(t *testing.T, s string, wrong api.Errno) {
	t.Helper()
	if e, f := entry.Decode(s); f != wrong || !reflect.DeepEqual(normal(e), api.Entry{}) {
		t.Fatalf("Decode of % X: error %d, not %d; %s", short(s), f, wrong, told(e))
	}
}

// told tells an entry in a few words, short the first of some bytes.
func told(e api.Entry) string {
	s := fmt.Sprintf("%+v", e)
	return s[:min(len(s), 300)]
}

func short(s string) string { return s[:min(len(s), 60)] }

// counted returns n numbers, unlike ones about each other.
func counted(n int) []uint64 {
	l := make([]uint64, n)
	for i := range l {
		l[i] = uint64(i+1) * 0x9E3779B97F4A7C15
	}
	return l
}

// lists returns lists of some lengths.
func lists(lengths ...int) [][]uint64 {
	var l [][]uint64
	for i, n := range lengths {
		l = append(l, counted(n + i)[i:])
	}
	return l
}

// empties returns n lists of nothing.
func empties(n int) [][]uint64 { return make([][]uint64, n) }

// unlike are entries of each Kind, with lists of no, one and several members.
func unlike() []api.Entry {
	return []api.Entry{
		{Kind: api.Load},
		{Kind: api.Load, Coms: empties(1)},
		{Kind: api.Load, Coms: empties(3)},
		{Kind: api.Load, Coms: lists(1)},
		{Kind: api.Load, Coms: lists(2, 2, 2, 2)},
		{Kind: api.Load, Coms: lists(3, 0, 1, 0)},
		{Kind: api.Query},
		{Kind: api.Query, ID: 5, X: []int64{1, -1}},
		{Kind: api.Query, ID: 258, X: []int64{0, 7, -300, 1 << 20}},
		{Kind: api.Query, X: []int64{math.MinInt64}},
		{Kind: api.Query, ID: api.MaxNumber},
		{Kind: api.Begin},
		{Kind: api.Begin, Epoch: 1, Next: []int{2, 3}},
		{Kind: api.Begin, Epoch: 772, Next: []int{8, 1, 1, api.MaxNumber, 0}},
		{Kind: api.Begin, Next: []int{4}},
		{Kind: api.Seal},
		{Kind: api.Seal, Epoch: 3},
		{Kind: api.Seal, Epoch: 1, Deals: []api.Dealt{{Dealer: 1, Col: lists(2, 2)}, {Dealer: 4, Col: lists(2, 2)}}},
		{Kind: api.Seal, Deals: []api.Dealt{{}}},
		{Kind: api.Seal, Deals: []api.Dealt{{Col: empties(1)}, {Dealer: 9}, {Dealer: api.MaxNumber, Col: lists(0, 3, 1)}}},
		{Kind: api.Seal, Epoch: 9, Deals: []api.Dealt{{Dealer: 2, Col: lists(1)}}},
	}
}

// drawnNumber returns a number from 0 to MaxNumber of any length, or an edge.
func drawnNumber(rng *rand.Rand) int {
	if edges := []int{0, 1, 255, 256, api.MaxNumber - 1, api.MaxNumber}; rng.Intn(3) == 0 {
		return edges[rng.Intn(len(edges))]
	}
	return rng.Intn(1<<rng.Intn(41) + 1)
}

// drawn64 returns a number of 64 bits of any length, or an edge.
func drawn64(rng *rand.Rand) uint64 {
	if edges := []uint64{0, 1, 1<<63 - 1, 1 << 63, 1<<64 - 1}; rng.Intn(3) == 0 {
		return edges[rng.Intn(len(edges))]
	}
	return rng.Uint64() >> rng.Intn(64)
}

// drawnLength returns a length that is most often small.
func drawnLength(rng *rand.Rand) int {
	if rng.Intn(30) == 0 {
		return rng.Intn(greatest + 1)
	}
	return rng.Intn(5)
}

func drawnLists(rng *rand.Rand) [][]uint64 {
	l := make([][]uint64, drawnLength(rng))
	for i := range l {
		l[i] = make([]uint64, drawnLength(rng))
	}
	return l
}

// shape returns a well-formed entry with lists of drawn lengths, in which all numbers are 0.
func shape(rng *rand.Rand, kind uint8) api.Entry {
	e := api.Entry{Kind: kind}
	switch kind {
	case api.Load:
		e.Coms = drawnLists(rng)
	case api.Query:
		e.X = make([]int64, drawnLength(rng))
	case api.Begin:
		e.Next = make([]int, drawnLength(rng))
	case api.Seal:
		e.Deals = make([]api.Dealt, drawnLength(rng))
		for i := range e.Deals {
			e.Deals[i].Col = drawnLists(rng)
		}
	}
	return e
}

// filled returns a well-formed entry with lists of the same lengths, and drawn numbers.
func filled(rng *rand.Rand, e api.Entry) api.Entry {
	e = normal(e)
	fill := func(lists [][]uint64) {
		for _, list := range lists {
			for i := range list {
				list[i] = drawn64(rng)
			}
		}
	}
	switch e.Kind {
	case api.Query:
		e.ID = drawnNumber(rng)
	case api.Begin, api.Seal:
		e.Epoch = drawnNumber(rng)
	}
	for i := range e.X {
		e.X[i] = int64(drawn64(rng))
	}
	for i := range e.Next {
		e.Next[i] = drawnNumber(rng)
	}
	fill(e.Coms)
	for i := range e.Deals {
		e.Deals[i].Dealer = drawnNumber(rng)
		fill(e.Deals[i].Col)
	}
	return e
}

// drawn are many well-formed entries of all Kinds; most of them are valid.
func drawn(seed int64, n int) []api.Entry {
	rng := rand.New(rand.NewSource(seed))
	l := unlike()
	for i := range n {
		l = append(l, filled(rng, shape(rng, kinds[i%4])))
	}
	return l
}

// valid are those of the entries that are valid by the definition.
func valid(l []api.Entry) []api.Entry {
	return slices.DeleteFunc(slices.Clone(l), func(e api.Entry) bool { return !well(e) || len(bytesOf(e)) > api.MaxText })
}

// small are all entries of each Kind whose lists have at most two members, those in lists at most one, and whose numbers are 0 or 1.
func small() []api.Entry {
	var l []api.Entry
	one, some := [][]uint64{nil, {0}, {1}}, [][][]uint64{nil}
	for _, a := range one {
		some = append(some, [][]uint64{a})
		for _, b := range one {
			some = append(some, [][]uint64{a, b})
		}
	}
	for _, lists := range append(some, [][]uint64{{0, 0}}, [][]uint64{{0, 1}}, [][]uint64{{1, 0}}, empties(3)) {
		l = append(l, api.Entry{Kind: api.Load, Coms: lists})
	}
	var dealt [][]api.Dealt
	for d := range 2 {
		for _, lists := range some {
			dealt = append(dealt, []api.Dealt{{Dealer: d, Col: lists}})
		}
	}
	for _, a := range slices.Clone(dealt) {
		for _, b := range dealt[:26] {
			dealt = append(dealt, slices.Concat(a, b))
		}
	}
	dealt = append(dealt, nil, make([]api.Dealt, 3))
	for n := range 2 {
		for _, bits := range [][]int{nil, {0}, {1}, {0, 0}, {0, 1}, {1, 0}, {1, 1}} {
			var x []int64
			for _, b := range bits {
				x = append(x, int64(b))
			}
			l = append(l, api.Entry{Kind: api.Query, ID: n, X: x}, api.Entry{Kind: api.Begin, Epoch: n, Next: bits})
		}
		for _, d := range dealt {
			l = append(l, api.Entry{Kind: api.Seal, Epoch: n, Deals: d})
		}
	}
	return l
}

// TestExamples: the chapter's own examples.
func TestExamples(t *testing.T) {
	is(t, api.Entry{Kind: api.Query, ID: 5, X: []int64{1, -1}}, "\x02\x00\x00\x00\x00\x00\x00\x00\x05\x02\x00\x00\x00\x00\x00\x00\x00\x01\xFF\xFF\xFF\xFF\xFF\xFF\xFF\xFF", api.OK)
	is(t, api.Entry{Kind: api.Begin, Epoch: 1, Next: []int{2, 3}}, "\x03\x00\x00\x00\x00\x00\x00\x00\x01\x02\x00\x00\x00\x00\x00\x00\x00\x02\x00\x00\x00\x00\x00\x00\x00\x03", api.OK)
	is(t, api.Entry{Kind: api.Load}, "\x01\x00", api.OK)
	is(t, api.Entry{Kind: api.Load, Coms: [][]uint64{{}}}, "\x01\x01\x00\x00", api.OK)
	fails(t, api.Entry{Kind: api.Load, ID: 1}, api.ErrForm)
	refuses(t, "\x05\x00", api.ErrForm)
	refuses(t, "\x01", api.ErrForm)
	refuses(t, "\x01\x00\x00", api.ErrForm)
}

// TestBytes: bytes that are written out here, of what the chapter's examples do not have.
func TestBytes(t *testing.T) {
	is(t, api.Entry{Kind: api.Load, Coms: [][]uint64{{258, 1<<64 - 1}, {}, {3}}},
		"\x01\x03\x00\x02\x00\x00\x00\x00\x00\x00\x01\x02\xFF\xFF\xFF\xFF\xFF\xFF\xFF\xFF\x00\x00\x00\x01\x00\x00\x00\x00\x00\x00\x00\x03", api.OK)
	is(t, api.Entry{Kind: api.Query, ID: api.MaxNumber, X: []int64{math.MinInt64}},
		"\x02\x00\x00\x01\x00\x00\x00\x00\x00\x01\x80\x00\x00\x00\x00\x00\x00\x00", api.OK)
	is(t, api.Entry{Kind: api.Begin, Epoch: 0x0102030405, Next: []int{api.MaxNumber}},
		"\x03\x00\x00\x00\x01\x02\x03\x04\x05\x01\x00\x00\x01\x00\x00\x00\x00\x00", api.OK)
	is(t, api.Entry{Kind: api.Seal, Epoch: 2, Deals: []api.Dealt{{Dealer: 1, Col: [][]uint64{{7}, {}}}, {Dealer: 3}}},
		"\x04\x00\x00\x00\x00\x00\x00\x00\x02\x02\x00\x00\x00\x00\x00\x00\x00\x01\x02\x00\x01\x00\x00\x00\x00\x00\x00\x00\x07\x00\x00\x00\x00\x00\x00\x00\x00\x00\x03\x00", api.OK)
	is(t, api.Entry{Kind: api.Query}, "\x02\x00\x00\x00\x00\x00\x00\x00\x00\x00", api.OK)
	is(t, api.Entry{Kind: api.Begin}, "\x03\x00\x00\x00\x00\x00\x00\x00\x00\x00", api.OK)
	is(t, api.Entry{Kind: api.Seal}, "\x04\x00\x00\x00\x00\x00\x00\x00\x00\x00", api.OK)
}

// TestKinds: each Kind that a byte can tell, with nothing set, and as the Kind of entries of the others.
func TestKinds(t *testing.T) {
	for k := range 256 {
		e := api.Entry{Kind: uint8(k)}
		holds(t, e)
		if (k >= 1 && k <= 4) != entry.May(e) {
			t.Fatalf("May of the Kind %d", k)
		}
		if k < 1 || k > 4 {
			fails(t, e, api.ErrForm)
		}
		for _, other := range unlike() {
			s := count(k) + bytesOf(other)[1:]
			decodes(t, s)
			if other.Kind = uint8(k); k < 1 || k > 4 {
				fails(t, other, api.ErrForm)
				refuses(t, s, api.ErrForm)
			}
			holds(t, other)
		}
	}
}

// strange sets one field of an entry at a time, to each of some values.
func strange(e api.Entry) map[string][]api.Entry {
	m := map[string][]api.Entry{}
	add := func(name string, set func(*api.Entry)) {
		other := normal(e)
		set(&other)
		m[name] = append(m[name], other)
	}
	for _, n := range []int{1, -1, 2, 256, 1 << 32, api.MaxNumber, api.MaxNumber + 1, math.MaxInt64, math.MinInt64} {
		add("ID", func(e *api.Entry) { e.ID = n })
		add("Epoch", func(e *api.Entry) { e.Epoch = n })
	}
	for _, n := range []int{1, 2, 255, 256, 257} {
		add("X", func(e *api.Entry) { e.X = make([]int64, n) })
		add("Coms", func(e *api.Entry) { e.Coms = make([][]uint64, n) })
		add("Coms", func(e *api.Entry) { e.Coms = lists(make([]int, n)...) })
		add("Next", func(e *api.Entry) { e.Next = make([]int, n) })
		add("Deals", func(e *api.Entry) { e.Deals = make([]api.Dealt, n) })
	}
	add("X", func(e *api.Entry) { e.X = []int64{-1} })
	add("Coms", func(e *api.Entry) { e.Coms = [][]uint64{{5}} })
	add("Next", func(e *api.Entry) { e.Next = []int{2} })
	add("Deals", func(e *api.Entry) { e.Deals = []api.Dealt{{Dealer: 1, Col: lists(2)}} })
	return m
}

// TestStrangeFields: each field that a Kind does not have is set, one at a time.
func TestStrangeFields(t *testing.T) {
	for _, e := range unlike() {
		for name, l := range strange(e) {
			for _, other := range l {
				holds(t, other)
				if !slices.Contains(own[e.Kind], name) {
					fails(t, other, api.ErrForm)
				}
			}
		}
	}
}

// TestStrangeTogether: all the fields that another Kind has.
func TestStrangeTogether(t *testing.T) {
	for _, a := range unlike() {
		for _, b := range unlike() {
			e := normal(a)
			e.ID, e.Epoch = max(a.ID, b.ID), max(a.Epoch, b.Epoch)
			e.X, e.Coms = slices.Concat(a.X, b.X), slices.Concat(a.Coms, b.Coms)
			e.Next, e.Deals = slices.Concat(a.Next, b.Next), slices.Concat(a.Deals, b.Deals)
			holds(t, e)
		}
	}
}

// emptied returns an entry in which some of the lists that have no members are empty and not none, or the other way about.
func emptied(e api.Entry, which int) api.Entry {
	e = normal(e)
	if len(e.X) == 0 && which&1 != 0 {
		e.X = make([]int64, 0, 3)
	}
	if len(e.Coms) == 0 && which&2 != 0 {
		e.Coms = make([][]uint64, 0, 3)
	}
	if len(e.Next) == 0 && which&4 != 0 {
		e.Next = make([]int, 0, 3)
	}
	if len(e.Deals) == 0 && which&8 != 0 {
		e.Deals = make([]api.Dealt, 0, 3)
	}
	inner := func(lists [][]uint64) [][]uint64 {
		for i, list := range lists {
			if len(list) == 0 && which&16 != 0 {
				lists[i] = make([]uint64, 0, 3)
			}
		}
		if len(lists) == 0 && which&32 != 0 {
			return make([][]uint64, 0, 3)
		}
		return lists
	}
	inner(e.Coms)
	for i := range e.Deals {
		e.Deals[i].Col = inner(e.Deals[i].Col)
	}
	return e
}

// TestEmptyLists: an empty list and none in the place of each list, also of those that a Kind does not have.
func TestEmptyLists(t *testing.T) {
	for _, e := range append(unlike(), api.Entry{}, api.Entry{Kind: 5}, api.Entry{Kind: api.Load, ID: -1, Epoch: 1}) {
		s, wrong := entry.Encode(e)
		for which := range 64 {
			other := emptied(e, which)
			is(t, other, s, wrong)
			if !entry.Same(e, other) || !entry.Same(other, e) || !entry.Same(entry.Copy(other), e) {
				t.Fatalf("%s: an empty list is not as none", told(e))
			}
		}
	}
}

// TestNumbers: ID, Epoch, nodes and dealers below 0, at both ends, and above.
func TestNumbers(t *testing.T) {
	may := map[int]bool{
		math.MinInt64: false, -api.MaxNumber: false, -2: false, -1: false, 0: true, 1: true, 2: true, 255: true, 256: true, 1 << 31: true, 1 << 32: true,
		api.MaxNumber - 1: true, api.MaxNumber: true, api.MaxNumber + 1: false, 2 * api.MaxNumber: false, 1 << 62: false, math.MaxInt64: false,
	}
	for n, ok := range may {
		l := []api.Entry{
			{Kind: api.Query, ID: n}, {Kind: api.Query, ID: n, X: []int64{3, 4}},
			{Kind: api.Begin, Epoch: n}, {Kind: api.Begin, Epoch: n, Next: []int{1, 2}},
			{Kind: api.Begin, Next: []int{n}},
			{Kind: api.Begin, Epoch: 1, Next: []int{n, 2, 3}}, {Kind: api.Begin, Epoch: 1, Next: []int{1, n, 3}}, {Kind: api.Begin, Epoch: 1, Next: []int{1, 2, n}},
			{Kind: api.Seal, Epoch: n}, {Kind: api.Seal, Epoch: n, Deals: []api.Dealt{{Dealer: 1}}},
		}
		for at := range 3 {
			deals := []api.Dealt{{Dealer: 1, Col: lists(1)}, {Dealer: 2}, {Dealer: 3, Col: lists(0, 2)}}
			deals[at].Dealer = n
			l = append(l, api.Entry{Kind: api.Seal, Epoch: 2, Deals: deals})
		}
		for _, e := range l {
			holds(t, e)
			if entry.May(e) != ok {
				t.Fatalf("May of %s with %d", told(e), n)
			}
			decodes(t, bytesOf(e))
		}
	}
}

// TestDecodeNumbers: numbers of 64 bits in the place of ID, Epoch, nodes and dealers.
func TestDecodeNumbers(t *testing.T) {
	edges := []uint64{0, 1, api.MaxNumber, api.MaxNumber + 1, api.MaxNumber + 2, 1 << 41, 1<<63 - 1, 1 << 63, 1<<63 + 1, 1<<64 - api.MaxNumber, 1<<64 - 1}
	for b := range 64 {
		edges = append(edges, 1<<b, 1<<b+1, api.MaxNumber^1<<b)
	}
	for _, n := range edges {
		texts := []string{
			"\x02" + num(n) + "\x00", "\x02" + num(n) + "\x01" + num(9), "\x03" + num(n) + "\x00", "\x04" + num(n) + "\x00",
			"\x03" + num(1) + "\x01" + num(n), "\x03" + num(1) + "\x03" + num(1) + num(n) + num(2), "\x03" + num(1) + "\x02" + num(2) + num(n),
			"\x04" + num(1) + "\x01" + num(n) + "\x00", "\x04" + num(1) + "\x02" + num(1) + "\x01\x00\x00" + num(n) + "\x00", "\x04" + num(1) + "\x02" + num(n) + "\x01\x00\x00" + num(1) + "\x00",
		}
		for _, s := range texts {
			decodes(t, s)
			if _, f := entry.Decode(s); (f == api.OK) != (n <= api.MaxNumber) {
				t.Fatalf("Decode with %d: error %d", n, f)
			}
		}
		decodes(t, "\x02"+num(7)+"\x02"+num(n)+num(^n))
		decodes(t, "\x01\x01\x00\x02"+num(n)+num(^n))
		decodes(t, "\x04"+num(7)+"\x01"+num(3)+"\x01\x00\x02"+num(n)+num(^n))
	}
}

// TestMembers: integers of X and numbers of Coms and Col, to the least and the greatest of 64 bits.
func TestMembers(t *testing.T) {
	edges := []uint64{0, 1, 258, 1<<63 - 1, 1 << 63, 1<<63 + 1, 1<<64 - 1, 1<<64 - 2, 0x0102030405060708}
	for b := range 64 {
		edges = append(edges, 1<<b, ^uint64(1<<b), api.MaxP+1<<b)
	}
	for i, n := range edges {
		m := edges[(i+1)%len(edges)]
		is(t, api.Entry{Kind: api.Query, ID: 6, X: []int64{int64(n), 5, int64(m)}}, "\x02"+num(6)+"\x03"+num(n)+num(5)+num(m), api.OK)
		is(t, api.Entry{Kind: api.Load, Coms: [][]uint64{{n, m}, {m}}}, "\x01\x02\x00\x02"+num(n)+num(m)+"\x00\x01"+num(m), api.OK)
		deals := []api.Dealt{{Dealer: 4, Col: [][]uint64{{m}, {n, n}}}}
		is(t, api.Entry{Kind: api.Seal, Epoch: 6, Deals: deals}, "\x04"+num(6)+"\x01"+num(4)+"\x02\x00\x01"+num(m)+"\x00\x02"+num(n)+num(n), api.OK)
	}
}

// TestCounts: X, Coms, Next, Deals and Col of each length up to far more than 255 members.
func TestCounts(t *testing.T) {
	lengths := []int{511, 512, 513, 1023, 1024, 1025, 1 << 16, 1<<16 + 1, 1<<16 + 255}
	for n := range 300 {
		lengths = append(lengths, n)
	}
	for _, n := range lengths {
		deals := []api.Dealt{{Dealer: 1}, {Dealer: 2, Col: empties(n)}}
		l := []api.Entry{
			{Kind: api.Query, ID: 1, X: make([]int64, n)},
			{Kind: api.Load, Coms: empties(n)},
			{Kind: api.Begin, Epoch: 1, Next: make([]int, n)},
			{Kind: api.Seal, Epoch: 1, Deals: make([]api.Dealt, n)},
			{Kind: api.Seal, Epoch: 1, Deals: deals},
			{Kind: api.Seal, Epoch: 1, Deals: []api.Dealt{deals[1], deals[0]}},
		}
		for _, e := range l {
			holds(t, e)
			if _, wrong := entry.Encode(e); (wrong == api.ErrForm) != (n > greatest) {
				t.Fatalf("%s with %d members: error %d", told(e), n, wrong)
			}
		}
	}
}

// TestListLengths: lists in Coms and in Col of each length: there is no limit but that of the bytes.
func TestListLengths(t *testing.T) {
	lengths := []int{511, 512, api.MaxNums - 1, api.MaxNums, api.MaxNums + 1, 1 << 13, 1<<16 - 1, 1 << 16, 1<<16 + 1, 1 << 17}
	for n := range 300 {
		lengths = append(lengths, n)
	}
	for _, n := range lengths {
		for _, coms := range [][][]uint64{lists(n), lists(0, n), lists(n, 1)} {
			holds(t, api.Entry{Kind: api.Load, Coms: coms})
			holds(t, api.Entry{Kind: api.Seal, Epoch: 8, Deals: []api.Dealt{{Dealer: 3, Col: coms}}})
			holds(t, api.Entry{Kind: api.Seal, Epoch: 8, Deals: []api.Dealt{{Dealer: 3, Col: coms}, {Dealer: 4}}})
			holds(t, api.Entry{Kind: api.Seal, Epoch: 8, Deals: []api.Dealt{{Dealer: 3}, {Dealer: 4, Col: coms}}})
		}
		one := api.Entry{Kind: api.Load, Coms: lists(n)}
		if _, wrong := entry.Encode(one); (wrong == api.OK) != (4+8*n <= api.MaxText) || wrong != api.OK && wrong != api.ErrTooLarge {
			t.Fatalf("a list of %d numbers: error %d", n, wrong)
		}
	}
}

// just are entries with just MaxText bytes, and such ones with at most 9 more.
func just() (just, over []api.Entry) {
	seal := func(deals ...api.Dealt) api.Entry { return api.Entry{Kind: api.Seal, Epoch: 1, Deals: deals} }
	just = []api.Entry{
		{Kind: api.Load, Coms: lists(255, 0, 0)},
		{Kind: api.Load, Coms: lists(0, 0, 255)},
		{Kind: api.Load, Coms: lists(85, 85, 85)},
		{Kind: api.Load, Coms: append(lists(192), empties(254)...)},
		seal(api.Dealt{Dealer: 1, Col: lists(252, 0)}, api.Dealt{Dealer: 2}),
		seal(api.Dealt{Dealer: 1}, api.Dealt{Dealer: 2, Col: lists(0, 252)}),
		seal(api.Dealt{Dealer: 1, Col: lists(126)}, api.Dealt{Dealer: 2, Col: lists(126)}),
		seal(append(make([]api.Dealt, 225), api.Dealt{Col: empties(2)})...),
	}
	over = []api.Entry{
		{Kind: api.Query, ID: 1, X: make([]int64, 255)},
		{Kind: api.Begin, Epoch: 1, Next: make([]int, 255)},
		{Kind: api.Load, Coms: lists(255, 0, 0, 0)},
		{Kind: api.Load, Coms: lists(255, 0, 1)},
		{Kind: api.Load, Coms: append(lists(193), empties(254)...)},
		seal(api.Dealt{Dealer: 1, Col: lists(253, 0, 0)}),                        // one byte more
		seal(api.Dealt{Dealer: 1, Col: lists(251, 0)}, api.Dealt{}, api.Dealt{}), // and again
		seal(api.Dealt{Dealer: 1, Col: lists(252, 0, 0)}, api.Dealt{Dealer: 2}),
		seal(api.Dealt{Dealer: 1}, api.Dealt{Dealer: 2, Col: lists(0, 252, 0)}),
		seal(api.Dealt{Dealer: 1, Col: lists(127)}, api.Dealt{Dealer: 2, Col: lists(126)}),
		seal(api.Dealt{Dealer: 1, Col: lists(252, 0)}, api.Dealt{Dealer: 2}, api.Dealt{}),
		seal(append(make([]api.Dealt, 225), api.Dealt{Col: empties(3)})...),
		seal(make([]api.Dealt, 227)...),
	}
	return just, over
}

// TestMaxText: entries with just MaxText bytes, with a little more, and with far more.
func TestMaxText(t *testing.T) {
	exact, over := just()
	for _, e := range exact {
		s := bytesOf(e)
		if len(s) != api.MaxText {
			t.Fatalf("%s has %d bytes", told(e), len(s))
		}
		is(t, e, s, api.OK)
		for b := range 256 {
			refuses(t, s+count(b), api.ErrTooLarge)
		}
		refuses(t, s[:len(s)-1], api.ErrForm)
	}
	for _, e := range over {
		s := bytesOf(e)
		if len(s) <= api.MaxText || len(s) > api.MaxText+9 {
			t.Fatalf("%s has %d bytes", told(e), len(s))
		}
		fails(t, e, api.ErrTooLarge)
		refuses(t, s, api.ErrTooLarge)
	}
	fewer := api.Entry{Kind: api.Seal, Epoch: 1, Deals: []api.Dealt{{Dealer: 1, Col: lists(253, 0)}}}
	if s := bytesOf(fewer); len(s) != api.MaxText-1 {
		t.Fatalf("%s has %d bytes", told(fewer), len(s))
	}
	holds(t, fewer)
	many := make([]api.Dealt, greatest)
	for i := range many {
		many[i] = api.Dealt{Dealer: i, Col: lists(make([]int, greatest)...)}
	}
	far := []api.Entry{
		{Kind: api.Load, Coms: lists(256)},
		{Kind: api.Load, Coms: lists(1 << 20)},
		{Kind: api.Load, Coms: slices.Repeat([][]uint64{counted(api.MaxNums)}, greatest)},
		{Kind: api.Load, Coms: slices.Repeat([][]uint64{counted(1 << 18)}, greatest)},
		{Kind: api.Seal, Deals: many},
		{Kind: api.Seal, Deals: slices.Repeat([]api.Dealt{{Dealer: 1, Col: slices.Repeat([][]uint64{counted(1 << 18)}, greatest)}}, greatest)},
	}
	for _, e := range far {
		if s, wrong := entry.Encode(e); s != "" || wrong != api.ErrTooLarge || entry.May(e) {
			t.Fatalf("%s: error %d, %d bytes", told(api.Entry{Kind: e.Kind}), wrong, len(s))
		}
	}
}

// TestEncodeOrder: what is not well-formed is ErrForm also where the bytes before it are far too many.
func TestEncodeOrder(t *testing.T) {
	huge := slices.Repeat([][]uint64{counted(300)}, 20)
	deal := api.Dealt{Dealer: 1, Col: huge}
	ok := map[string]api.Entry{
		"Load":  {Kind: api.Load, Coms: huge},
		"Query": {Kind: api.Query, ID: 1, X: make([]int64, greatest)},
		"Begin": {Kind: api.Begin, Epoch: 1, Next: make([]int, greatest)},
		"Seal":  {Kind: api.Seal, Epoch: 1, Deals: []api.Dealt{deal, deal}},
	}
	for _, e := range ok {
		fails(t, e, api.ErrTooLarge)
		for name, l := range strange(e) {
			if slices.Contains(own[e.Kind], name) {
				continue
			}
			for _, other := range l {
				fails(t, other, api.ErrForm)
			}
		}
		for _, k := range []uint8{0, 5, 255} {
			e.Kind = k
			fails(t, e, api.ErrForm)
		}
	}
	next := make([]int, greatest)
	next[greatest-1] = -1
	wrong := []api.Entry{
		{Kind: api.Load, Coms: slices.Repeat(huge, 20)},
		{Kind: api.Load, Coms: slices.Repeat([][]uint64{counted(api.MaxNums + 1)}, 256)},
		{Kind: api.Query, ID: -1, X: make([]int64, greatest)},
		{Kind: api.Query, ID: 1, X: make([]int64, 256)},
		{Kind: api.Query, ID: api.MaxNumber + 1, X: make([]int64, greatest)},
		{Kind: api.Begin, Epoch: -1, Next: make([]int, greatest)},
		{Kind: api.Begin, Epoch: 1, Next: next},
		{Kind: api.Begin, Epoch: 1, Next: make([]int, 256)},
		{Kind: api.Seal, Epoch: -1, Deals: []api.Dealt{deal}},
		{Kind: api.Seal, Epoch: 1, Deals: []api.Dealt{deal, {Dealer: -1}}},
		{Kind: api.Seal, Epoch: 1, Deals: []api.Dealt{deal, {Dealer: api.MaxNumber + 1}}},
		{Kind: api.Seal, Epoch: 1, Deals: []api.Dealt{deal, {Dealer: 2, Col: empties(256)}}},
		{Kind: api.Seal, Epoch: 1, Deals: slices.Repeat([]api.Dealt{deal}, 256)},
	}
	for _, e := range wrong {
		fails(t, e, api.ErrForm)
	}
}

// TestDecodeOrder: more than MaxText bytes are ErrTooLarge whatever they are; MaxText and fewer are not.
func TestDecodeOrder(t *testing.T) {
	for _, n := range []int{api.MaxText + 1, api.MaxText + 2, 2 * api.MaxText, 1 << 16, 1<<16 + 2} {
		for k := range 256 {
			refuses(t, count(k)+strings.Repeat("\x00", n-1), api.ErrTooLarge)
			refuses(t, strings.Repeat(count(k), n), api.ErrTooLarge)
		}
		for _, e := range valid(unlike()) {
			s := bytesOf(e)
			refuses(t, s+strings.Repeat("\x00", n-len(s)), api.ErrTooLarge)
		}
	}
	for k := range 256 {
		for _, n := range []int{api.MaxText - 1, api.MaxText} {
			decodes(t, strings.Repeat(count(k), n))
			refuses(t, count(k)+strings.Repeat("\x00", n-1), api.ErrForm)
		}
	}
}

// TestCut: P13.5 and wrong inputs: entries cut off at each place, and with bytes behind them.
func TestCut(t *testing.T) {
	exact, _ := just()
	for _, e := range valid(append(drawn(1, 400), exact...)) {
		s := bytesOf(e)
		for cut := range len(s) {
			refuses(t, s[:cut], api.ErrForm)
		}
		for b := range 256 {
			if len(s) < api.MaxText {
				refuses(t, s+count(b), api.ErrForm)
			}
		}
		for _, other := range unlike() {
			if more := s + bytesOf(other); len(more) <= api.MaxText {
				refuses(t, more, api.ErrForm)
			}
		}
	}
}

// TestShortTexts: all texts of up to two bytes, those of three with a Kind that is one or is next to one, and each Kind with 00s and with FFs behind it.
func TestShortTexts(t *testing.T) {
	refuses(t, "", api.ErrForm)
	for a := range 256 {
		refuses(t, count(a), api.ErrForm)
		for b := range 256 {
			decodes(t, count(a)+count(b))
			for c := range 256 {
				if a <= 5 {
					decodes(t, count(a)+count(b)+count(c))
				}
			}
		}
		for n := range 60 {
			decodes(t, count(a)+strings.Repeat("\x00", n))
			decodes(t, count(a)+strings.Repeat("\xFF", n))
		}
	}
}

// TestMoreThanIsLeft: each byte of entries is another one, so that each number of members and each length is larger, or smaller, than what is left.
func TestMoreThanIsLeft(t *testing.T) {
	for _, e := range valid(drawn(2, 40)) {
		s := bytesOf(e)
		for at := range min(len(s), 100) {
			for b := range 256 {
				decodes(t, s[:at]+count(b)+s[at+1:])
			}
		}
	}
	exact, _ := just()
	for _, e := range exact {
		s := bytesOf(e)
		for at := 0; at < len(s); at += 1 + at/40 {
			for _, b := range []byte{0, s[at] + 1, s[at] - 1, 255} {
				decodes(t, s[:at]+string([]byte{b})+s[at+1:])
			}
		}
	}
}

// TestDecodeLengths: each length of a list that two bytes can tell, in a Load and in a Seal, with less behind it, just that, and more.
func TestDecodeLengths(t *testing.T) {
	behind := strings.Repeat("\x00", api.MaxText)
	for n := range 1 << 16 {
		head := "\x01\x01" + string([]byte{byte(n >> 8), byte(n)})
		seal := "\x04" + num(1) + "\x01" + num(1) + head[1:]
		for _, size := range []int{0, 8*n - 1, 8 * n, 8*n + 1, api.MaxText - len(head)} {
			for _, h := range []string{head, seal} {
				if size >= 0 && len(h)+size <= api.MaxText {
					decodes(t, h+behind[:size])
				}
			}
		}
	}
}

// TestDecodeDrawn: drawn bytes, and entries of which some bytes are others, are more, or are missing, held against the definition.
func TestDecodeDrawn(t *testing.T) {
	rng := rand.New(rand.NewSource(3))
	texts := []string{}
	for _, e := range valid(drawn(4, 200)) {
		texts = append(texts, bytesOf(e))
	}
	for range 60000 {
		b := make([]byte, rng.Intn(70))
		for i := range b {
			b[i] = []byte{0, 0, 0, 1, 2, 3, byte(rng.Intn(256))}[rng.Intn(7)]
		}
		decodes(t, string(b))
		s := texts[rng.Intn(len(texts))]
		for range 1 + rng.Intn(3) {
			at, n := rng.Intn(len(s)+1), rng.Intn(len(b)+1)
			to := at + rng.Intn(len(s)-at+1)
			s = s[:at] + string(b[:n]) + s[to:]
		}
		decodes(t, s)
	}
	for range 3000 {
		b := make([]byte, api.MaxText-2+rng.Intn(5))
		for i := range b {
			b[i] = []byte{0, 0, 0, 0, 1, byte(rng.Intn(256))}[rng.Intn(6)]
		}
		b[0] = byte(rng.Intn(6))
		decodes(t, string(b))
	}
}

// TestEncodeDrawn: drawn entries, many of them not well-formed, held against the definition.
func TestEncodeDrawn(t *testing.T) {
	rng := rand.New(rand.NewSource(5))
	for range 40000 {
		holds(t, wild(rng))
	}
}

// wild returns an entry with whatever in its fields.
func wild(rng *rand.Rand) api.Entry {
	number := func() int {
		if edges := []int{-1, math.MinInt64, api.MaxNumber + 1, math.MaxInt64}; rng.Intn(20) == 0 {
			return edges[rng.Intn(len(edges))]
		}
		return drawnNumber(rng)
	}
	e := filled(rng, shape(rng, kinds[rng.Intn(4)]))
	for range rng.Intn(3) {
		other := filled(rng, shape(rng, kinds[rng.Intn(4)]))
		switch rng.Intn(9) {
		case 0:
			e.Kind = byte(rng.Intn(7))
		case 1:
			e.ID = number()
		case 2:
			e.Epoch = number()
		case 3:
			e.X = other.X
		case 4:
			e.Coms = other.Coms
		case 5:
			e.Next = append(e.Next, number())
		case 6:
			e.Deals = append(e.Deals, api.Dealt{Dealer: number(), Col: other.Coms})
		case 7:
			e = emptied(e, rng.Intn(64))
		case 8:
			e.X = append(e.X, make([]int64, 256)...)
		}
	}
	return e
}

// TestBack: P13.3, both ways.
func TestBack(t *testing.T) {
	exact, _ := just()
	for _, e := range valid(append(append(drawn(6, 4000), small()...), exact...)) {
		s, wrong := entry.Encode(e)
		if wrong != api.OK || !entry.May(e) {
			t.Fatalf("Encode of %s: error %d", told(e), wrong)
		}
		back, wrong := entry.Decode(s)
		if wrong != api.OK || !equal(back, e) || !entry.Same(back, e) {
			t.Fatalf("Decode of % X: error %d, %s", short(s), wrong, told(back))
		}
		again, wrong := entry.Encode(back)
		if wrong != api.OK || again != s {
			t.Fatalf("% X, again: error %d, % X", short(s), wrong, short(again))
		}
	}
}

// TestUnique: P13.4 for each two of all small entries and of drawn ones.
func TestUnique(t *testing.T) {
	l := small()
	for i, e := range valid(drawn(7, 300)) {
		l = append(l, e, emptied(e, i), normal(e))
	}
	texts := make([]string, len(l))
	for i, e := range l {
		s, wrong := entry.Encode(e)
		if wrong != api.OK {
			t.Fatalf("Encode of %s: error %d", told(e), wrong)
		}
		texts[i] = s
	}
	for i, a := range l {
		for j, b := range l {
			if entry.Same(a, b) != (texts[i] == texts[j]) {
				t.Fatalf("%s, %s: Same is %v, but the bytes are % X and % X", told(a), told(b), entry.Same(a, b), short(texts[i]), short(texts[j]))
			}
		}
	}
}

// TestPrefixFree: P13.5: among the bytes of many entries none are the beginning of others, and none followed by others are an entry.
func TestPrefixFree(t *testing.T) {
	exact, _ := just()
	var texts []string
	for _, e := range valid(append(append(drawn(8, 2000), small()...), exact...)) {
		s, _ := entry.Encode(e)
		texts = append(texts, s)
	}
	slices.Sort(texts)
	texts = slices.Compact(texts)
	for i := 1; i < len(texts); i++ {
		// In this order one that has a prefix among them has one just before it.
		if strings.HasPrefix(texts[i], texts[i-1]) {
			t.Fatalf("% X begins with % X", short(texts[i]), short(texts[i-1]))
		}
	}
	rng := rand.New(rand.NewSource(9))
	for range 20000 {
		s := texts[rng.Intn(len(texts))] + texts[rng.Intn(len(texts))]
		if len(s) <= api.MaxText {
			refuses(t, s, api.ErrForm)
		}
	}
}

// TestLength: P13.6: entries of one Kind, with lists of the same lengths, and whatever numbers.
func TestLength(t *testing.T) {
	rng := rand.New(rand.NewSource(10))
	for i := range 2000 {
		e := shape(rng, kinds[i%4])
		s, wrong := entry.Encode(e)
		for range 5 {
			other := filled(rng, e)
			if got, f := entry.Encode(other); f != wrong || len(got) != len(s) {
				t.Fatalf("%s: %d bytes, error %d; %s: %d bytes, error %d", told(e), len(s), wrong, told(other), len(got), f)
			}
		}
	}
}

// changed are entries that are unlike one in one field, in one member, or in the length of one list.
func changed(e api.Entry) []api.Entry {
	var l []api.Entry
	add := func(change func(e *api.Entry)) {
		other := normal(e)
		change(&other)
		l = append(l, other)
	}
	for b := range 64 {
		add(func(e *api.Entry) { e.ID ^= 1 << b })
		add(func(e *api.Entry) { e.Epoch ^= 1 << b })
		add(func(e *api.Entry) { e.Kind ^= 1 << (b % 8) })
		for i := range e.X {
			add(func(e *api.Entry) { e.X[i] ^= 1 << b })
		}
		for i := range e.Next {
			add(func(e *api.Entry) { e.Next[i] ^= 1 << b })
		}
		for i := range e.Deals {
			add(func(e *api.Entry) { e.Deals[i].Dealer ^= 1 << b })
		}
	}
	add(func(e *api.Entry) { e.X = append(e.X, 0) })
	add(func(e *api.Entry) { e.Next = append(e.Next, 0) })
	add(func(e *api.Entry) { e.Deals = append(e.Deals, api.Dealt{}) })
	add(func(e *api.Entry) { e.X = append([]int64{0}, e.X...) })
	add(func(e *api.Entry) { e.Next = append([]int{0}, e.Next...) })
	add(func(e *api.Entry) { e.Deals = append([]api.Dealt{{}}, e.Deals...) })
	if len(e.X) > 0 {
		add(func(e *api.Entry) { e.X = e.X[:len(e.X)-1] })
		add(func(e *api.Entry) { e.X = e.X[1:] })
		add(func(e *api.Entry) { e.X = nil })
	}
	if len(e.Next) > 0 {
		add(func(e *api.Entry) { e.Next = e.Next[:len(e.Next)-1] })
		add(func(e *api.Entry) { e.Next = e.Next[1:] })
		add(func(e *api.Entry) { e.Next = nil })
	}
	if len(e.Deals) > 0 {
		add(func(e *api.Entry) { e.Deals = e.Deals[:len(e.Deals)-1] })
		add(func(e *api.Entry) { e.Deals = e.Deals[1:] })
		add(func(e *api.Entry) { e.Deals = nil })
	}
	for at := -1; at < len(e.Deals); at++ {
		of := func(e *api.Entry) *[][]uint64 {
			if at < 0 {
				return &e.Coms
			}
			return &e.Deals[at].Col
		}
		for _, change := range changedLists(*of(&e)) {
			add(func(e *api.Entry) { change(of(e)) })
		}
	}
	return l
}

// changedLists are the ways to change lists in one number or one length.
func changedLists(lists [][]uint64) []func(l *[][]uint64) {
	changes := []func(l *[][]uint64){
		func(l *[][]uint64) { *l = append(*l, nil) },
		func(l *[][]uint64) { *l = append(*l, []uint64{0}) },
		func(l *[][]uint64) { *l = append([][]uint64{nil}, *l...) },
	}
	if len(lists) > 0 {
		changes = append(changes, func(l *[][]uint64) { *l = (*l)[1:] }, func(l *[][]uint64) { *l = (*l)[:len(*l)-1] })
	}
	for i, list := range lists {
		changes = append(changes, func(l *[][]uint64) { (*l)[i] = append((*l)[i], 0) })
		if len(list) > 0 {
			changes = append(changes, func(l *[][]uint64) { (*l)[i] = (*l)[i][:len((*l)[i])-1] })
		}
		if i > 0 && len(list) > 0 {
			changes = append(changes, func(l *[][]uint64) { // the first number stands in the list before
				(*l)[i-1], (*l)[i] = append((*l)[i-1], (*l)[i][0]), (*l)[i][1:]
			})
		}
		for j := range list {
			for b := range 64 {
				changes = append(changes, func(l *[][]uint64) { (*l)[i][j] ^= 1 << b })
			}
		}
	}
	return changes
}

// full are entries that have all fields, which no Kind has, of the four Kinds and of others.
func full() []api.Entry {
	var l []api.Entry
	for _, k := range []uint8{0, 1, 2, 3, 4, 5, 200, 255} {
		l = append(l, api.Entry{
			Kind: k, ID: -3, Epoch: api.MaxNumber + 7, X: []int64{4, -5}, Coms: lists(2, 0, 1), Next: []int{-1, 6, math.MaxInt64},
			Deals: []api.Dealt{{Dealer: -9, Col: lists(1, 2)}, {}, {Dealer: 1, Col: empties(2)}},
		})
	}
	return l
}

// TestSame: P13.2: entries that are unlike in one thing, well-formed and not.
func TestSame(t *testing.T) {
	for _, e := range append(append(unlike(), full()...), api.Entry{}, api.Entry{Kind: 7}) {
		if !entry.Same(e, normal(e)) {
			t.Fatalf("%s is not the same as one of the same members", told(e))
		}
		for _, other := range changed(e) {
			if equal(e, other) {
				t.Fatalf("%s is not changed", told(e))
			}
			if entry.Same(e, other) || entry.Same(other, e) {
				t.Fatalf("%s and %s are the same", told(e), told(other))
			}
		}
	}
	// Long ones, that are unlike at one place.
	a := api.Entry{X: make([]int64, 1000), Next: make([]int, 1000), Coms: lists(make([]int, 1000)...), Deals: make([]api.Dealt, 1000)}
	for at := range 1000 {
		for i, change := range []func(e *api.Entry){
			func(e *api.Entry) { e.X[at]++ }, func(e *api.Entry) { e.Next[at]++ }, func(e *api.Entry) { e.Coms[at] = counted(at + 1) },
			func(e *api.Entry) { e.Deals[at].Dealer++ }, func(e *api.Entry) { e.Deals[at].Col = empties(1) },
		} {
			b := normal(a)
			change(&b)
			if entry.Same(a, b) || entry.Same(b, a) || !entry.Same(b, b) {
				t.Fatalf("change %d of the member %d", i, at)
			}
		}
	}
}

// TestSameDrawn: drawn entries, each two of them, held against the definition.
func TestSameDrawn(t *testing.T) {
	rng := rand.New(rand.NewSource(11))
	var l []api.Entry
	for range 200 {
		e := wild(rng)
		l = append(l, e, emptied(e, rng.Intn(64)))
	}
	normals := make([]api.Entry, len(l))
	for i, e := range l {
		normals[i] = normal(e)
	}
	for i, a := range l {
		for j, b := range l {
			if got, want := entry.Same(a, b), reflect.DeepEqual(normals[i], normals[j]); got != want {
				t.Fatalf("%s, %s: %v", told(a), told(b), got)
			}
		}
	}
}

// TestCopy: P13.2: copies of entries, whatever they are.
func TestCopy(t *testing.T) {
	rng := rand.New(rand.NewSource(12))
	l := append(append(drawn(13, 200), full()...), api.Entry{}, api.Entry{X: make([]int64, 5000), Coms: lists(5000, 1, 300), Next: make([]int, 5000), Deals: make([]api.Dealt, 5000)})
	for range 2000 {
		l = append(l, wild(rng))
	}
	for _, e := range l {
		c := entry.Copy(e)
		if !equal(c, e) || !entry.Same(c, e) || !entry.Same(e, c) {
			t.Fatalf("%s: its copy is %s", told(e), told(c))
		}
	}
}

// piece is the memory of one list, with what is behind it up to its capacity.
type piece struct{ from, to uintptr }

// pieces returns the memory of all lists of an entry, those in lists too.
func pieces(v reflect.Value) []piece {
	var l []piece
	switch v.Kind() {
	case reflect.Slice:
		if v.Cap() > 0 {
			l = append(l, piece{v.Pointer(), v.Pointer() + uintptr(v.Cap())*v.Type().Elem().Size()})
		}
		for i := range v.Len() {
			l = append(l, pieces(v.Index(i))...)
		}
	case reflect.Struct:
		for i := range v.NumField() {
			l = append(l, pieces(v.Field(i))...)
		}
	}
	return l
}

// apart tells that no list of the answers shares memory with another one of theirs, or with one of what was handed in.
func apart(t *testing.T, handed []api.Entry, answers ...api.Entry) {
	t.Helper()
	type owned struct {
		piece
		handed bool
	}
	var l []owned
	for _, e := range handed {
		for _, p := range pieces(reflect.ValueOf(e)) {
			l = append(l, owned{p, true})
		}
	}
	for _, e := range answers {
		for _, p := range pieces(reflect.ValueOf(e)) {
			l = append(l, owned{p, false})
		}
	}
	sort.Slice(l, func(i, j int) bool { return l[i].from < l[j].from })
	for i := range l {
		for j := i + 1; j < len(l) && l[j].from < l[i].to; j++ {
			if !l[i].handed || !l[j].handed {
				t.Fatal("a list of an answer shares its memory")
			}
		}
	}
}

// scribble writes over all lists of an entry, up to their capacities, and extends them.
func scribble(e api.Entry) {
	numbers := func(l []uint64) []uint64 {
		for i := range l[:cap(l)] {
			l[:cap(l)][i] = 0xBAD
		}
		return append(l, 0xBAD)
	}
	over := func(l [][]uint64) {
		for i := range l[:cap(l)] {
			l[:cap(l)][i] = numbers(l[:cap(l)][i])
		}
		_ = append(l, nil)
	}
	for i := range e.X[:cap(e.X)] {
		e.X[:cap(e.X)][i] = 0xBAD
	}
	for i := range e.Next[:cap(e.Next)] {
		e.Next[:cap(e.Next)][i] = 0xBAD
	}
	over(e.Coms)
	for i := range e.Deals[:cap(e.Deals)] {
		d := &e.Deals[:cap(e.Deals)][i]
		over(d.Col)
		*d = api.Dealt{Dealer: 0xBAD, Col: empties(2)}
	}
	_, _, _ = append(e.X, 0xBAD), append(e.Next, 0xBAD), append(e.Deals, api.Dealt{Dealer: 0xBAD})
}

// roomy returns an entry of the same members whose lists stand in long ones, the lists in a list behind one another in one: what is extended there is written over the next one.
func roomy(e api.Entry) api.Entry {
	within := func(lists [][]uint64) [][]uint64 {
		all, to := make([]uint64, 0, 5000), make([][]uint64, 0, len(lists)+5)
		for _, list := range lists {
			from := len(all)
			all = append(all, list...)
			to = append(to, all[from:])
		}
		return to
	}
	e = normal(e)
	e.X, e.Next, e.Deals = slices.Grow(e.X, 9), slices.Grow(e.Next, 9), slices.Grow(e.Deals, 9)
	e.Coms = within(e.Coms)
	for i := range e.Deals {
		e.Deals[i].Col = within(e.Deals[i].Col)
	}
	return e
}

// TestCopySharesNothing: R1: a copy and what was copied, and two copies, are written over and extended without the others being changed.
func TestCopySharesNothing(t *testing.T) {
	shared := counted(3)
	col := [][]uint64{shared, shared[:2], shared}
	l := append(append(drawn(14, 100), full()...), api.Entry{Coms: col, Deals: []api.Dealt{{Col: col}, {Dealer: 2, Col: col[:2]}, {Col: col}}})
	for _, from := range l {
		want := normal(from)
		for _, e := range []api.Entry{from, roomy(from), emptied(from, 63)} {
			a, b, c := entry.Copy(e), entry.Copy(e), entry.Copy(e)
			apart(t, []api.Entry{e}, a, b, c)
			again := entry.Copy(a)
			apart(t, []api.Entry{e, a, b, c}, again)
			scribble(a)
			if !equal(e, want) || !equal(b, want) || !equal(again, want) {
				t.Fatalf("%s: writing over a copy shows", told(want))
			}
			scribble(b)
			if later := entry.Copy(e); !equal(later, want) || !equal(c, want) {
				t.Fatalf("%s: writing over a copy shows in another one", told(want))
			}
		}
		e := roomy(from)
		b := entry.Copy(e)
		scribble(e)
		if !equal(b, want) {
			t.Fatalf("%s: writing over what was copied shows", told(want))
		}
	}
}

// TestDecodeSharesNothing: R1: as TestCopySharesNothing, for what Decode returned, and for the bytes.
func TestDecodeSharesNothing(t *testing.T) {
	exact, _ := just()
	for _, want := range valid(append(drawn(15, 300), exact...)) {
		b := []byte(bytesOf(want))
		s := unsafe.String(unsafe.SliceData(b), len(b))
		x, _ := entry.Decode(s)
		y, _ := entry.Decode(s)
		z, _ := entry.Decode(s)
		apart(t, nil, x, y, z)
		scribble(x)
		if string(b) != bytesOf(want) {
			t.Fatal("the bytes are changed")
		}
		if later, _ := entry.Decode(s); !equal(y, want) || !equal(later, want) {
			t.Fatalf("%s: writing over an answer shows in another one", told(want))
		}
		clear(b)
		if !equal(y, want) || !equal(z, want) {
			t.Fatalf("%s: an answer hangs on the bytes", told(want))
		}
	}
}

// TestArgumentsKept: R1: entries that are handed in are not changed, also behind their lists, and the bytes do not hang on what becomes of them.
func TestArgumentsKept(t *testing.T) {
	_, over := just()
	for _, from := range append(append(append(drawn(16, 200), full()...), over...), api.Entry{}) {
		e, other := roomy(from), roomy(from)
		for _, list := range [][]uint64{behind(e), behind(other)} {
			for i := range list {
				list[i] = uint64(i) + 77
			}
		}
		kept := slices.Clone(behind(e))
		want := normal(from)
		s, wrong := entry.Encode(e)
		held := strings.Clone(s)
		entry.May(e)
		entry.Same(e, other)
		entry.Same(e, api.Entry{Kind: e.Kind})
		entry.Copy(e)
		if !equal(e, want) || !equal(other, want) || !slices.Equal(behind(e), kept) {
			t.Fatalf("%s is changed", told(want))
		}
		scribble(e)
		if s != held {
			t.Fatalf("%s: its bytes hang on it", told(want))
		}
		if again, f := entry.Encode(other); again != s || f != wrong {
			t.Fatalf("%s: other bytes", told(want))
		}
	}
}

// behind returns the room behind the first list of an entry's commitments.
func behind(e api.Entry) []uint64 {
	if len(e.Coms) == 0 {
		return nil
	}
	last := e.Coms[len(e.Coms)-1]
	return last[len(last):cap(last)]
}
