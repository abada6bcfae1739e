package slots_test

import (
	"encoding/binary"
	"math/rand"
	"slices"
	"strconv"
	"strings"
	"testing"
	"unsafe"

	"consistory/api"
	"consistory/disk"
	"consistory/slots"
)

const (
	half = 32768      // sectors of a slot
	room = 32767      // sectors of a text
	most = room * 512 // bytes of a text
	last = half*2 - 1 // the last sector of the second slot
	full = 1 << 40    // the greatest age
)

// op is a sync, or a write of a sector.
type op struct {
	sync bool
	at   int
	text string
}

// head is a header by the definition.
type head struct {
	age, length uint64
	valid       bool
}

// headOf reads the header in the bytes of a sector.
func headOf(sector string) head {
	b := []byte(sector)
	age, length, again := binary.BigEndian.Uint64(b), binary.BigEndian.Uint64(b[8:]), binary.BigEndian.Uint64(b[16:])
	takes := length / 512
	if length%512 != 0 {
		takes++
	}
	return head{age, length, age == again && age >= 1 && age <= full && takes <= room}
}

// header is the bytes of a header.
func header(age, length, again uint64) string {
	var b []byte
	for _, n := range []uint64{age, length, again} {
		b = binary.BigEndian.AppendUint64(b, n)
	}
	return string(b)
}

// newest returns the first sector of the newest slot, and its header; not valid if none is.
func newest(d *disk.Disk) (int, head) {
	first, second := headOf(d.Read(0)), headOf(d.Read(half))
	switch {
	case !first.valid && !second.valid:
		return -1, head{}
	case !first.valid:
		return half, second
	case !second.valid || first.age >= second.age:
		return 0, first
	}
	return half, second
}

// textOf returns the text of a disk by the definition.
func textOf(d *disk.Disk) (string, bool) {
	if d == nil || d.Dead() {
		return "", false
	}
	at, h := newest(d)
	if !h.valid {
		return "", false
	}
	var b strings.Builder
	for i := range int(h.length) / 512 {
		b.WriteString(d.Read(at + 1 + i))
	}
	if part := int(h.length) % 512; part > 0 {
		b.WriteString(d.Read(at + 1 + int(h.length)/512)[:part])
	}
	return b.String(), true
}

// ageOf returns the age of a disk by the definition.
func ageOf(d *disk.Disk) int {
	if d == nil || d.Dead() {
		return 0
	}
	_, h := newest(d)
	return int(h.age)
}

// plan returns what writing a text does, in order, by the definition; the disk is neither dead nor at its greatest age.
func plan(d *disk.Disk, s string) []op {
	at, h := newest(d)
	to := 0
	if at == 0 {
		to = half
	}
	now := d.Copy() // all that is read, on the platter
	now.Start()
	now.Sync()
	l := []op{{sync: true}, {at: to, text: zeros(512)}, {sync: true}}
	next := to + 1
	for rest := s; len(rest) > 0; next++ {
		n := min(512, len(rest))
		l = append(l, op{at: next, text: bytesOf(rest[:n])})
		rest = rest[n:]
	}
	for _, used := range now.Used() {
		if used >= next && used < to+half && now.Platter(used) != zeros(512) {
			l = append(l, op{at: used, text: zeros(512)})
		}
	}
	age := h.age + 1
	return append(l, op{sync: true}, op{at: to, text: bytesOf(header(age, uint64(len(s)), age))}, op{sync: true})
}

// do does operations, as long as the disk does them.
func do(d *disk.Disk, l []op) api.Errno {
	for _, o := range l {
		e := api.OK
		if o.sync {
			e = d.Sync()
		} else {
			e = d.Write(o.at, o.text)
		}
		if e != api.OK {
			return e
		}
	}
	return api.OK
}

// write is Write by the definition.
func write(d *disk.Disk, s string) api.Errno {
	switch {
	case d == nil:
		return api.ErrNil
	case d.Dead():
		return api.ErrDead
	case len(s) > most:
		return api.ErrLong
	case ageOf(d) == full:
		return api.ErrFull
	}
	return do(d, plan(d, s))
}

// twice is Twice by the definition.
func twice(d *disk.Disk, s string) api.Errno {
	e := write(d, s)
	if e == api.OK {
		e = write(d, s)
	}
	return e
}

// zeros returns n bytes 00.
func zeros(n int) string { return strings.Repeat("\x00", n) }

// bytesOf returns a text, padded to a sector.
func bytesOf(s string) string { return s + zeros(512-len(s)) }

// patterned returns n bytes, none of them 00, unlike ones about each other, and unlike in each sector.
func patterned(n, seed int) string {
	b := make([]byte, n)
	for i := range b {
		b[i] = byte((i*7+i/512*5+i>>16+seed*3)%255) + 1
	}
	return string(b)
}

// short tells a text by some of its bytes, and its length.
func short(s string) string {
	return strconv.Quote(s[:min(len(s), 40)]) + " of " + strconv.Itoa(len(s)) + " bytes"
}

func ok(t *testing.T, e api.Errno) {
	t.Helper()
	fails(t, e, api.OK)
}

func fails(t *testing.T, e, want api.Errno) {
	t.Helper()
	if e != want {
		t.Fatalf("error %d, not %d", e, want)
	}
}

// put writes to sectors, and syncs.
func put(t *testing.T, d *disk.Disk, sectors map[int]string) *disk.Disk {
	t.Helper()
	for at, s := range sectors {
		ok(t, d.Write(at, s))
	}
	ok(t, d.Sync())
	return d
}

// written returns a disk to which texts were written.
func written(t *testing.T, texts ...string) *disk.Disk {
	t.Helper()
	d := disk.New()
	for _, s := range texts {
		ok(t, slots.Write(d, s))
	}
	return d
}

// has tells that Read and Age answer these.
func has(t *testing.T, d *disk.Disk, text string, is bool, age int) {
	t.Helper()
	if got, there := slots.Read(d); got != text || there != is {
		t.Fatalf("Read: %s, %v, not %s, %v", short(got), there, short(text), is)
	}
	if got := slots.Age(d); got != age {
		t.Fatalf("Age: %d, not %d", got, age)
	}
}

// agrees tells that Read and Age answer of a disk what the definition does of another one; texts of very many bytes are left out.
func agrees(t *testing.T, d, want *disk.Disk) {
	t.Helper()
	if got := slots.Age(d); got != ageOf(want) {
		t.Fatalf("Age: %d, not %d", got, ageOf(want))
	}
	if !want.Dead() {
		if _, h := newest(want); h.length > 1<<20 {
			return
		}
	}
	text, is := textOf(want)
	has(t, d, text, is, ageOf(want))
}

// contains tells that a slot has, on the platter, exactly a header, a text, and 00s.
func contains(t *testing.T, d *disk.Disk, at int, age int, text string) {
	t.Helper()
	if got, want := d.Platter(at), bytesOf(header(uint64(age), uint64(len(text)), uint64(age))); got != want {
		t.Fatalf("header in %d: %s, not %s", at, short(got), short(want))
	}
	sector := at + 1
	for ; text != ""; sector++ {
		n := min(len(text), 512)
		if got := d.Platter(sector); got != bytesOf(text[:n]) {
			t.Fatalf("sector %d: %s, not %s", sector, short(got), short(text[:n]))
		}
		text = text[n:]
	}
	for _, used := range d.Used() {
		if used >= sector && used < at+half {
			t.Fatalf("sector %d: %s", used, short(d.Platter(used)))
		}
	}
}

// containTwice tells that both slots have a text, and nothing else, the newest one with that age.
func containTwice(t *testing.T, d *disk.Disk, age int, text string) {
	t.Helper()
	at, _ := newest(d)
	contains(t, d, at, age, text)
	contains(t, d, half-at, age-1, text)
}

// alike tells that two disks are the same: their platters, what is in their caches, in order, what they read, and whether they are dead.
func alike(t *testing.T, d, want *disk.Disk) {
	t.Helper()
	if d.Dead() != want.Dead() || d.Waits() != want.Waits() {
		t.Fatalf("dead: %v, not %v; %d writes wait, not %d", d.Dead(), want.Dead(), d.Waits(), want.Waits())
	}
	alikeOn(t, d, want)
	for kept := 0; kept <= d.Waits(); kept += 1 + d.Waits()/40 { // a crash behind each write shows the order
		a, b := d.Copy(), want.Copy()
		keep := slices.Repeat([]bool{true}, kept)
		a.Crash(keep, 300)
		b.Crash(keep, 300)
		alikeOn(t, a, b)
	}
}

// alikeOn tells that two disks have the same on their platters, and read the same.
func alikeOn(t *testing.T, d, want *disk.Disk) {
	t.Helper()
	used := want.Used()
	if got := d.Used(); !slices.Equal(got, used) {
		t.Fatalf("used: %v, not %v", got[:min(len(got), 30)], used[:min(len(used), 30)])
	}
	a, b := d.Copy(), want.Copy()
	a.Start()
	b.Start()
	for _, at := range used {
		if got := a.Platter(at); got != b.Platter(at) {
			t.Fatalf("platter, sector %d: %s, not %s", at, short(got), short(b.Platter(at)))
		}
		if got := a.Read(at); a.Waits() < 100 && got != b.Read(at) {
			t.Fatalf("sector %d: %s, not %s", at, short(got), short(b.Read(at)))
		}
	}
}

// burnt returns how many writes and syncs a disk does yet, up to some.
func burnt(d *disk.Disk) int {
	c := d.Copy()
	for i := range 100 {
		if c.Sync() != api.OK {
			return i
		}
	}
	return 100
}

// TestExamples: the chapter's own examples.
func TestExamples(t *testing.T) {
	d := disk.New()
	has(t, d, "", false, 0)
	ok(t, slots.Write(d, "ab"))
	has(t, d, "ab", true, 1)
	if got, want := d.Platter(0), "\x00\x00\x00\x00\x00\x00\x00\x01\x00\x00\x00\x00\x00\x00\x00\x02\x00\x00\x00\x00\x00\x00\x00\x01"+zeros(488); got != want {
		t.Fatal("sector 0:", short(got))
	}
	if got := d.Platter(1); got != "ab"+zeros(510) {
		t.Fatal("sector 1:", short(got))
	}
	ok(t, slots.Write(d, "c"))
	if got, want := d.Platter(32768), "\x00\x00\x00\x00\x00\x00\x00\x02\x00\x00\x00\x00\x00\x00\x00\x01\x00\x00\x00\x00\x00\x00\x00\x02"+zeros(488); got != want {
		t.Fatal("sector 32768:", short(got))
	}
	has(t, d, "c", true, 2)
	d.Fuse(3)
	fails(t, slots.Write(d, "d"), api.ErrDead)
	d.Start()
	has(t, d, "c", true, 2)
	d.Fuse(7)
	ok(t, slots.Write(d, "d"))
	has(t, d, "d", true, 3)
	d.Start() // without the fuse, which has run out
	ok(t, slots.Twice(d, "e"))
	has(t, d, "e", true, 5)
	for _, at := range d.Used() {
		if strings.Contains(d.Platter(at), "d") {
			t.Fatal("d remains in", at)
		}
	}
	if got := d.Used(); !slices.Equal(got, []int{0, 1, 32768, 32769}) {
		t.Fatal("used:", got)
	}
}

// lengths are those about the edges.
func lengths() []int {
	return []int{0, 1, 2, 255, 256, 511, 512, 513, 1023, 1024, 1025, 2048, 65535, 65536, 65537, most - 512, most - 511, most - 1, most}
}

// TestLengths: P11.1, P11.2, P11.4: a text of each length, in the first slot, in the second one, and over a longer one and a shorter one.
func TestLengths(t *testing.T) {
	for _, n := range lengths() {
		d := disk.New()
		l := []string{patterned(n, 1), patterned(n, 2)}
		if n < 1<<20 {
			l = append(l, patterned(n/2, 3), patterned(n, 4), zeros(n), patterned(n, 5))
		}
		for i, s := range l {
			ok(t, slots.Write(d, s))
			has(t, d, s, true, i+1)
			contains(t, d, i%2*half, i+1, s)
			if d.Waits() != 0 || d.Dead() {
				t.Fatal("something waits, or it is dead")
			}
		}
	}
}

// TestTooLong: P11.1: one byte more than a slot has is refused, and more than that; nothing is done.
func TestTooLong(t *testing.T) {
	for _, n := range []int{most + 1, most + 512, most + 513, 2 * most, 1 << 25} {
		d := written(t, "a", "b")
		ok(t, d.Write(7, "waits"))
		d.Fuse(50)
		was := d.Copy()
		for _, call := range []func(*disk.Disk, string) api.Errno{slots.Write, slots.Twice} {
			fails(t, call(d, zeros(n)), api.ErrLong)
			fails(t, call(d, patterned(n, 1)), api.ErrLong)
		}
		alike(t, d, was)
		if burnt(d) != 50 {
			t.Fatal("the fuse burnt")
		}
		has(t, d, "b", true, 2)
	}
}

// TestEnds: the first sectors of each slot, and the last ones: a text that takes all of them, and then a short one.
func TestEnds(t *testing.T) {
	d := written(t, patterned(most, 1), patterned(most, 2))
	for at, want := range map[int]string{
		1:        patterned(most, 1)[:512],
		half - 1: patterned(most, 1)[most-512:],
		half + 1: patterned(most, 2)[:512],
		last:     patterned(most, 2)[most-512:],
	} {
		if got := d.Platter(at); got != want {
			t.Fatalf("sector %d: %s", at, short(got))
		}
	}
	ok(t, slots.Write(d, "x"))
	contains(t, d, 0, 3, "x")
	contains(t, d, half, 2, patterned(most, 2))
	ok(t, slots.Write(d, ""))
	contains(t, d, 0, 3, "x")
	contains(t, d, half, 4, "")
	if got := d.Used(); !slices.Equal(got, []int{0, 1, half}) {
		t.Fatal("used:", got)
	}
}

// heads are headers of all kinds.
func heads() []string {
	l := []string{"", "\x00\x01", zeros(23) + "\x01", zeros(7) + "\x01", patterned(512, 1), strings.Repeat("\xFF", 512)}
	ages := []uint64{0, 1, 2, 3, 255, 256, 257, 1 << 32, full - 1, full, full + 1, full + 2, 1 << 41, 1 << 63, 1<<64 - 1}
	for _, age := range ages {
		for _, length := range []uint64{0, 3} {
			l = append(l, header(age, length, age))
		}
		l = append(l, header(age, 2, age+1), header(age, 2, age-1), header(age, 2, 0), header(0, 2, age), header(age, 2, age+1<<32), header(age, 2, age|1<<40))
	}
	for _, length := range []uint64{1, 512, 513, most - 1, most, most + 1, most + 511, most + 512, most + 513, 1 << 24, 1 << 31, 1 << 32, 1<<32 + 1, 1 << 63, 1<<64 - 1, 1<<64 - 511, 1<<64 - 512} {
		l = append(l, header(7, length, 7), header(full, length, full))
	}
	return append(l, header(5, 4, 5)+"behind", header(5, 4, 5)+zeros(487)+"x", header(6, 1, 6)+header(0, 9, 3))
}

// TestHeaders: Terms and P11.2: each header in the first slot, each one in the second, each pair of them.
func TestHeaders(t *testing.T) {
	sectors := map[int]string{}
	for _, at := range []int{1, 2, 3, half - 2, half - 1, half + 1, half + 2, half + 3, last - 1, last} {
		sectors[at] = patterned(512, at)
	}
	base := put(t, disk.New(), sectors)
	for _, first := range heads() {
		for _, second := range heads() {
			d := put(t, base.Copy(), map[int]string{0: first, half: second})
			agrees(t, d, d)
		}
	}
	for _, n := range []uint64{most - 512, most - 511, most - 1, most} {
		for _, at := range []int{0, half} {
			d := put(t, base.Copy(), map[int]string{at: header(9, n, 9), half - at: header(8, 2, 8)})
			text, is := textOf(d)
			if len(text) != int(n) || !is {
				t.Fatal("the definition:", len(text))
			}
			has(t, d, text, true, 9)
			d = put(t, d, map[int]string{at: header(9, most+1, 9)})
			text, is = textOf(d)
			has(t, d, text, is, 8)
		}
	}
}

// TestValid: Terms: which headers are valid, each one by itself in the first slot, and in the second one.
func TestValid(t *testing.T) {
	for _, c := range []struct {
		header string
		age    int
	}{
		{"", 0},
		{header(0, 0, 0), 0},
		{header(0, 1, 0), 0},
		{header(1, 0, 1), 1},
		{header(1, 0, 0), 0},
		{header(0, 0, 1), 0},
		{header(1, 1, 2), 0},
		{header(2, 1, 1), 0},
		{header(1, 1, 1+1<<32), 0},
		{header(1+1<<40, 1, 1), 0},
		{header(1<<32, 1, 1<<32), 1 << 32},
		{header(1<<40-1, 1, 1<<40-1), 1<<40 - 1},
		{header(1<<40, 1, 1<<40), 1 << 40},
		{header(1<<40+1, 1, 1<<40+1), 0},
		{header(1<<63, 1, 1<<63), 0},
		{header(1<<64-1, 1, 1<<64-1), 0},
		{header(3, 16776704, 3), 3},
		{header(3, 16776703, 3), 3},
		{header(3, 16776705, 3), 0},
		{header(3, 16777216, 3), 0},
		{header(3, 1<<32, 3), 0},
		{header(3, 1<<63, 3), 0},
		{header(3, 1<<64-1, 3), 0},
		{header(4, 1, 4) + "x", 4},
		{header(4, 1, 4) + strings.Repeat("\xFF", 488), 4},
		{"\x00" + header(4, 1, 4), 0},
	} {
		for _, at := range []int{0, half} {
			d := put(t, disk.New(), map[int]string{at: c.header})
			_, is := slots.Read(d)
			if got := slots.Age(d); got != c.age || is != (c.age > 0) {
				t.Errorf("%s in %d: Age %d, not %d; Read: %v", short(c.header), at, got, c.age, is)
			}
		}
	}
}

// TestWriteOverHeaders: P11.4, P11.5: where a text is written on a disk with these headers, and the age that it has then.
func TestWriteOverHeaders(t *testing.T) {
	base := put(t, disk.New(), map[int]string{1: "a", 2: "b", 9: "c", half - 1: "d", half + 1: "e", half + 2: "f", half + 9: "g", last: "h"})
	for i, first := range heads() {
		for j, second := range heads() {
			if i > 12 && j > 12 && (i+j)%5 > 0 {
				continue
			}
			d := put(t, base.Copy(), map[int]string{0: first, half: second})
			was, age := d.Copy(), ageOf(d)
			e := slots.Write(d, "new")
			if age == full {
				fails(t, e, api.ErrFull)
				alike(t, d, was)
				continue
			}
			ok(t, e)
			ok(t, write(was, "new"))
			alike(t, d, was)
			at, _ := newest(d)
			contains(t, d, at, age+1, "new")
			has(t, d, "new", true, age+1)
		}
	}
}

// TestSameAge: of two slots with the same age the first one is the newest: its text is read, and the other one is overwritten.
func TestSameAge(t *testing.T) {
	for _, age := range []uint64{1, 2, 256, full - 1} {
		d := put(t, disk.New(), map[int]string{0: header(age, 5, age), 1: "first", half: header(age, 6, age), half + 1: "second"})
		has(t, d, "first", true, int(age))
		ok(t, slots.Write(d, "new"))
		contains(t, d, 0, int(age), "first")
		contains(t, d, half, int(age)+1, "new")
		has(t, d, "new", true, int(age)+1)
	}
	d := put(t, disk.New(), map[int]string{0: header(full, 5, full), 1: "first", half: header(full, 6, full), half + 1: "second"})
	has(t, d, "first", true, full)
	fails(t, slots.Write(d, "new"), api.ErrFull)
}

// TestFull: a disk whose age is MaxNumber, in either slot, and one whose age is one less: it takes one more text.
func TestFull(t *testing.T) {
	for _, at := range []int{0, half} {
		d := put(t, disk.New(), map[int]string{at: header(full-1, 1, full-1), at + 1: "a", half - at: header(full-2, 1, full-2), half - at + 1: "b"})
		has(t, d, "a", true, full-1)
		c := d.Copy()
		ok(t, slots.Write(d, "new"))
		contains(t, d, half-at, full, "new")
		contains(t, d, at, full-1, "a")
		has(t, d, "new", true, full)
		ok(t, d.Write(5, "waits"))
		d.Fuse(20)
		was := d.Copy()
		for _, s := range []string{"", "newer", zeros(most)} {
			fails(t, slots.Write(d, s), api.ErrFull)
			fails(t, slots.Twice(d, s), api.ErrFull)
		}
		alike(t, d, was)
		if burnt(d) != 20 {
			t.Fatal("the fuse burnt")
		}
		// The first Write of a Twice does what it should, the second one fails.
		fails(t, slots.Twice(c, "twice"), api.ErrFull)
		contains(t, c, half-at, full, "twice")
		contains(t, c, at, full-1, "a")
		has(t, c, "twice", true, full)
	}
}

// TestErrors: each error by itself and in the table's row.
func TestErrors(t *testing.T) {
	for _, dead := range []bool{false, true} {
		for _, long := range []bool{false, true} {
			for _, old := range []bool{false, true} {
				for _, out := range []bool{false, true} {
					for i, call := range []func(*disk.Disk, string) api.Errno{slots.Write, slots.Twice} {
						d := written(t, "a", "b")
						age := 2
						if old {
							age = full
							put(t, d, map[int]string{0: header(full, 1, full)})
						}
						if dead {
							d.Crash(nil, 0)
						}
						if out {
							d.Fuse(0)
						}
						s := "new"
						if long {
							s = zeros(most + 1)
						}
						want := api.OK
						switch {
						case dead:
							want = api.ErrDead
						case long:
							want = api.ErrLong
						case old:
							want = api.ErrFull
						case out:
							want = api.ErrDead
						}
						was := d.Copy()
						fails(t, call(d, s), want)
						if d.Dead() != (want == api.ErrDead) {
							t.Fatal("dead:", d.Dead())
						}
						if want == api.OK {
							has(t, d, s, true, age+1+i)
							continue
						}
						alikeOn(t, d, was)
						d.Start()
						has(t, d, map[bool]string{false: "b", true: "a"}[old], true, age)
					}
				}
			}
		}
	}
}

// TestDead: each call on a disk that is dead, by its fuse and by a crash.
func TestDead(t *testing.T) {
	for _, kill := range []func(d *disk.Disk){
		func(d *disk.Disk) { d.Crash(nil, 0) },
		func(d *disk.Disk) { d.Crash([]bool{true}, 512) },
		func(d *disk.Disk) { d.Fuse(0); d.Sync() },
		func(d *disk.Disk) { d.Fuse(1); d.Write(3, "c"); d.Write(3, "d") },
	} {
		for _, d := range []*disk.Disk{disk.New(), written(t, "a"), written(t, "a", "b")} {
			ok(t, d.Write(2, "waits"))
			kill(d)
			was := d.Copy()
			for _, s := range []string{"", "a", zeros(most), zeros(most + 1)} {
				fails(t, slots.Write(d, s), api.ErrDead)
				fails(t, slots.Twice(d, s), api.ErrDead)
				has(t, d, "", false, 0)
			}
			alike(t, d, was)
			d.Start()
			text, is := textOf(d)
			has(t, d, text, is, ageOf(d))
		}
	}
}

// TestNil: each call on a disk that is nil.
func TestNil(t *testing.T) {
	for _, s := range []string{"", "a", zeros(most), zeros(most + 1)} {
		fails(t, slots.Write(nil, s), api.ErrNil)
		fails(t, slots.Twice(nil, s), api.ErrNil)
		has(t, nil, "", false, 0)
	}
}

// start is a disk to begin with.
type start struct {
	name string
	d    *disk.Disk
	only bool // only this layer has written on it
}

// aged returns a disk of that age by writes of this layer alone, as far as its bytes tell.
func aged(t *testing.T, age int, text, before string) *disk.Disk {
	t.Helper()
	first, second := age-1, age
	texts := []string{before, text}
	if age%2 == 1 {
		first, second = age, age-1
		texts = []string{text, before}
	}
	sectors := map[int]string{0: header(uint64(first), uint64(len(texts[0])), uint64(first)), half: header(uint64(second), uint64(len(texts[1])), uint64(second))}
	for i, s := range texts {
		for at := i*half + 1; s != ""; at++ {
			n := min(512, len(s))
			sectors[at] = s[:n]
			s = s[n:]
		}
	}
	return put(t, disk.New(), sectors)
}

// starts are disks to begin with: new, with texts, and with whatever on them and in their caches.
func starts(t *testing.T) []start {
	l := []start{
		{"new", disk.New(), true},
		{"one text", written(t, "one"), true},
		{"two texts", written(t, "one", "two"), true},
		{"long texts", written(t, patterned(2000, 1), patterned(2100, 2)), true},
		{"a long text and an empty one", written(t, patterned(3000, 1), ""), true},
		{"texts with 00s", written(t, patterned(700, 1)+zeros(600)+patterned(300, 2), zeros(1500)+"x"), true},
		{"three texts", written(t, patterned(1600, 3), patterned(10, 4), patterned(513, 5)), true},
		{"twice", written(t, "a", patterned(1100, 6), patterned(1100, 6)), true},
	}
	for _, age := range []int{255, 256, 257, 65535, 65536, 1<<24 - 1, 1 << 24, full - 3} {
		l = append(l, start{"age " + strconv.Itoa(age), aged(t, age, patterned(600, age), patterned(1300, age+1)), true})
	}
	for name, sectors := range map[string]map[int]string{
		"whatever":            {0: patterned(512, 1), 1: "a", 5: "b", 300: "c", half - 1: "d", half: "e", half + 2: "f", last: "g"},
		"same age":            {0: header(4, 3, 4), 1: "a", 3: "b", half: header(4, 600, 4), half + 1: "c", half + 7: "d", last: "e"},
		"first valid":         {0: header(4, 3, 4), 1: "a", 3: "b", half: header(9, 600, 8), half + 1: "c", half + 7: "d", last: "e"},
		"second valid":        {0: header(9, 3, 8), 1: "a", 3: "b", half - 1: "c", half: header(4, 600, 4), half + 1: "c"},
		"behind the headers":  {0: header(4, 3, 4) + "x", 1: "aaaa", 2: "b", half: header(3, 600, 3) + zeros(487) + "y", half + 1: patterned(512, 8), half + 3: "z"},
		"a lonely last byte":  {half - 1: zeros(511) + "x", last: zeros(511) + "y", 2: zeros(511) + "z"},
		"a length too great":  {0: header(9, most+1, 9), half: header(3, most, 3), half + 2: "a"},
		"an age too great":    {0: header(full+1, 1, full+1), 1: "a", half: header(1<<63, 2, 1<<63), half + 1: "b"},
		"almost the last age": {0: header(full-1, 1, full-1), 1: "a", half: header(full-2, 2, full-2), half + 1: "b"},
	} {
		l = append(l, start{name, put(t, disk.New(), sectors), false})
	}
	for name, writes := range map[string][]op{
		"one write waits":         {{at: 4, text: "a"}},
		"00s wait":                {{at: 1}, {at: half + 1}, {at: 2}, {at: half + 2}, {at: last}},
		"00s over what waits":     {{at: 7, text: "a"}, {at: 7}, {at: half + 7, text: "b"}, {at: half + 7}},
		"a header waits":          {{at: 0, text: header(20, 2, 20)}, {at: 1, text: "ab"}},
		"the other header waits":  {{at: half, text: header(30, 2, 30)}, {at: half + 1, text: "ab"}, {at: half + 3, text: "c"}},
		"the headers' 00s wait":   {{at: 0}, {at: half}},
		"a newer header, and 00s": {{at: 0, text: header(50, 2, 50)}, {at: 0}, {at: half - 1, text: "x"}},
		"ends wait":               {{at: half - 1, text: "x"}, {at: last, text: "y"}, {at: half - 1}, {at: last, text: "z"}},
	} {
		for _, base := range []*disk.Disk{disk.New(), written(t, patterned(1200, 1), patterned(1700, 2)), written(t, "a", patterned(1200, 1), "b")} {
			d := base.Copy()
			ok(t, do(d, writes))
			l = append(l, start{name, d, false})
		}
	}
	return l
}

// texts are texts to write.
func texts() []string {
	return []string{"", "n", patterned(511, 20), patterned(512, 21), patterned(513, 22), patterned(1700, 23), zeros(1), zeros(512), zeros(700), patterned(600, 24) + zeros(600)}
}

// TestOrder: Terms and P11.6: stopped at each place, a Write has done exactly the operations before it, in that order; with a fuse of as many as it needs it is complete.
func TestOrder(t *testing.T) {
	for _, b := range starts(t) {
		for _, s := range texts() {
			l := plan(b.d, s)
			for fuse := range len(l) + 2 {
				d, want := b.d.Copy(), b.d.Copy()
				d.Fuse(fuse)
				want.Fuse(fuse)
				e := slots.Write(d, s)
				fails(t, e, do(want, l))
				if (e == api.OK) != (fuse >= len(l)) || e == api.OK && burnt(d) != fuse-len(l) {
					t.Fatalf("%s, %s, fuse %d of %d: error %d, %d left", b.name, short(s), fuse, len(l), e, burnt(d))
				}
				alike(t, d, want)
				d.Start()
				if e == api.OK {
					has(t, d, s, true, ageOf(b.d)+1)
					continue
				}
				want.Start()
				agrees(t, d, want)
			}
		}
	}
}

// TestOrderTwice: the same of Twice: two Writes, and nothing else; where the second one fails, the first one has done what it should.
func TestOrderTwice(t *testing.T) {
	for _, b := range starts(t) {
		for _, s := range []string{"", "n", patterned(513, 22), zeros(700)} {
			once := b.d.Copy()
			first := plan(b.d, s)
			ok(t, do(once, first))
			if ageOf(once) == full {
				continue
			}
			l := append(first, plan(once, s)...)
			for fuse := range len(l) + 2 {
				d, want := b.d.Copy(), b.d.Copy()
				d.Fuse(fuse)
				want.Fuse(fuse)
				e := slots.Twice(d, s)
				fails(t, e, do(want, l))
				if (e == api.OK) != (fuse >= len(l)) || e == api.OK && burnt(d) != fuse-len(l) {
					t.Fatalf("%s, %s, fuse %d of %d: error %d, %d left", b.name, short(s), fuse, len(l), e, burnt(d))
				}
				alike(t, d, want)
				d.Start()
				switch {
				case e == api.OK:
					has(t, d, s, true, ageOf(b.d)+2)
					containTwice(t, d, ageOf(b.d)+2, s)
				case fuse >= len(first):
					text, is := slots.Read(d)
					if text != s || !is {
						t.Fatal("the first Write of a Twice is lost")
					}
				}
			}
		}
	}
}

// patterns are the crashes: which writes are kept, and how much of the first one that is not.
func patterns(n int) (keeps [][]bool, places []int) {
	every := func(kept func(k int) bool) []bool {
		keep := make([]bool, n)
		for k := range keep {
			keep[k] = kept(k)
		}
		return keep
	}
	keeps = [][]bool{nil, every(func(int) bool { return true }), every(func(k int) bool { return k%2 == 0 }), every(func(k int) bool { return k%2 == 1 }), every(func(k int) bool { return k > 0 }), every(func(k int) bool { return k < n-1 })}
	return keeps, []int{0, 1, 5, 6, 7, 8, 9, 13, 14, 15, 16, 17, 20, 21, 22, 23, 24, 25, 100, 511, 512}
}

// either tells that a disk that starts again has the old text, or the new one, and that it works on.
func either(t *testing.T, d *disk.Disk, old string, was bool, age int, s string, by int) {
	t.Helper()
	text, is := slots.Read(d)
	now := slots.Age(d)
	switch {
	case is && text == s && now > age && now <= age+by:
	case is == was && text == old && now == age:
	default:
		t.Fatalf("neither the old text nor the new one, but %s, %v, of age %d", short(text), is, now)
	}
	c := d.Copy()
	ok(t, slots.Write(c, "later"))
	has(t, c, "later", true, now+1)
}

// TestOldOrNew: P11.3: on disks on which only this layer has written, each fuse and each crash, of a Write and a Twice: the old text, or the new one.
func TestOldOrNew(t *testing.T) {
	for _, b := range starts(t) {
		if !b.only {
			continue
		}
		old, was := textOf(b.d)
		age := ageOf(b.d)
		for _, s := range []string{"", "n", patterned(1100, 23), zeros(700)} {
			for by, call := range []func(*disk.Disk, string) api.Errno{slots.Write, slots.Twice} {
				for fuse, done := 0, false; !done; fuse++ {
					d := b.d.Copy()
					d.Fuse(fuse)
					e := call(d, s)
					done = e == api.OK
					if !done {
						fails(t, e, api.ErrDead)
					}
					stays := d.Copy() // it starts without a crash
					stays.Start()
					either(t, stays, old, was, age, s, by+1)
					keeps, places := patterns(d.Waits())
					for _, keep := range keeps {
						for _, at := range places {
							c := d.Copy()
							c.Crash(keep, at)
							has(t, c, "", false, 0)
							c.Start()
							if done {
								has(t, c, s, true, age+by+1)
								continue
							}
							either(t, c, old, was, age, s, by+1)
						}
					}
				}
			}
		}
	}
}

// TestOldOrNewOfMost: P11.3 for the longest texts, stopped at some places.
func TestOldOrNewOfMost(t *testing.T) {
	base := written(t, patterned(most, 1), patterned(most, 2))
	s := patterned(most, 3)
	for _, fuse := range []int{2, 3, 1000, room + 2, room + 3, room + 5} {
		d := base.Copy()
		d.Fuse(fuse)
		fails(t, slots.Write(d, s), api.ErrDead)
		keeps, _ := patterns(d.Waits())
		for i, keep := range keeps[:3] {
			c := d.Copy()
			c.Crash(keep, 20+i)
			c.Start()
			either(t, c, patterned(most, 2), true, 2, s, 1)
		}
	}
	d := base.Copy()
	d.Fuse(room + 6)
	ok(t, slots.Write(d, s))
	contains(t, d, 0, 3, s)
	contains(t, d, half, 2, patterned(most, 2))
}

// TestOperations: P11.6: on a new disk n + 6 writes and syncs for each number of sectors n, not one less, and not one more.
func TestOperations(t *testing.T) {
	sizes := []int{100, 1000, room - 1, room}
	for n := range 40 {
		sizes = append(sizes, n)
	}
	for _, n := range sizes {
		for _, bytes := range []int{n*512 - 511, n*512 - 1, n * 512} {
			if bytes < 0 {
				continue
			}
			for left := range 3 {
				d := disk.New()
				d.Fuse(n + 6 + left)
				ok(t, slots.Write(d, zeros(bytes)))
				if burnt(d) != left {
					t.Fatalf("%d bytes: %d of %d are left", bytes, burnt(d), left)
				}
			}
			d := disk.New()
			d.Fuse(n + 5)
			fails(t, slots.Write(d, zeros(bytes)), api.ErrDead)
			if !d.Dead() {
				t.Fatal("not dead")
			}
		}
	}
}

// TestOtherSectors: P11.4 and the order's fifth operation: a sector beyond the text is made 00 if it is not, and is not written if it is.
func TestOtherSectors(t *testing.T) {
	d := put(t, disk.New(), map[int]string{2: "a", 4: zeros(511) + "b", 6: "c", half - 1: "d", half: "e", half + 1: "f", last: "g"})
	put(t, d, map[int]string{6: ""})
	ok(t, d.Write(8, "waits"))
	ok(t, d.Write(8, ""))
	ok(t, d.Write(9, ""))
	c := d.Copy()
	c.Fuse(1 + 6 + 3) // the text is one sector; 2, 4, and the last one are not 00
	ok(t, slots.Write(c, "new"))
	if burnt(c) != 0 {
		t.Fatal("fewer operations")
	}
	if got := c.Used(); !slices.Equal(got, []int{0, 1, half, half + 1, last}) {
		t.Fatal("used:", got)
	}
	c = d.Copy()
	c.Fuse(1 + 6 + 2)
	fails(t, slots.Write(c, "new"), api.ErrDead)
	// A longer text covers two of them.
	c = d.Copy()
	c.Fuse(4 + 6 + 1)
	ok(t, slots.Write(c, patterned(2000, 1)))
	if burnt(c) != 0 {
		t.Fatal("fewer operations")
	}
	contains(t, c, 0, 1, patterned(2000, 1))
}

// TestWaits: what waits in the cache ahead of a Write is on the platter after it, also what this layer does not write to; headers that wait count.
func TestWaits(t *testing.T) {
	d := written(t, "one", "two")
	ok(t, d.Write(half+5, "kept"))
	ok(t, d.Write(0, header(7, 4, 7)))
	ok(t, d.Write(1, "seven"))
	has(t, d, "seve", true, 7)
	ok(t, slots.Write(d, "new"))
	has(t, d, "new", true, 8)
	contains(t, d, half, 8, "new")
	if d.Platter(1) != bytesOf("seven") || d.Platter(0) != bytesOf(header(7, 4, 7)) || d.Waits() != 0 {
		t.Fatal("what waited is lost")
	}
	ok(t, d.Write(half+5, "kept"))
	d.Fuse(1) // the first sync is done, the header's 00s are not
	fails(t, slots.Write(d, "newer"), api.ErrDead)
	d.Crash(nil, 0)
	d.Start()
	if d.Platter(half+5) != bytesOf("kept") {
		t.Fatal("what waited is lost")
	}
	has(t, d, "new", true, 8)
}

// randomText returns a text, often a short one, with 00s in it.
func randomText(rng *rand.Rand) string {
	n := []int{0, 1, 2, 20, 511, 512, 513, 1000, 1024, 1025, 2500}[rng.Intn(11)]
	s := patterned(n, rng.Intn(200))
	if rng.Intn(3) == 0 {
		s = s[:n/2] + zeros(n-n/2)
	}
	return s
}

// randomHeader returns a header, valid or not.
func randomHeader(rng *rand.Rand) string {
	ages := []uint64{0, 1, 2, 3, 4, 5, 255, 256, full - 1, full, full + 1}
	age := ages[rng.Intn(len(ages))]
	again := age
	if rng.Intn(4) == 0 {
		again = ages[rng.Intn(len(ages))]
	}
	return header(age, []uint64{0, 1, 2, 600, 2000, most, most + 1}[rng.Intn(7)], again)
}

// randomCrash returns which of n writes are kept, and where the torn one is.
func randomCrash(rng *rand.Rand, n int) ([]bool, int) {
	keep := make([]bool, rng.Intn(n+2))
	odds := 1 + rng.Intn(4)
	for k := range keep {
		keep[k] = rng.Intn(odds) > 0
	}
	return keep, rng.Intn([]int{30, 514}[rng.Intn(2)])
}

// both makes a random call at a disk, and by the definition at another one; it returns whether both answered the same.
func both(rng *rand.Rand, d, want *disk.Disk) bool {
	switch n := rng.Intn(20); {
	case n < 7:
		s := randomText(rng)
		return slots.Write(d, s) == write(want, s)
	case n < 10:
		s := randomText(rng)
		return slots.Twice(d, s) == twice(want, s)
	case n < 12:
		at := []int{0, half, 1, 2, 5, half - 1, half + 1, half + 2, half + 5, last}[rng.Intn(10)]
		s := patterned(rng.Intn(513), rng.Intn(200))
		if at%half == 0 {
			s = randomHeader(rng)
		} else if rng.Intn(3) == 0 {
			s = ""
		}
		return d.Write(at, s) == want.Write(at, s)
	case n < 13:
		return d.Sync() == want.Sync()
	case n < 15:
		fuse := rng.Intn(25) - 2
		d.Fuse(fuse)
		want.Fuse(fuse)
	case n < 16:
		keep, at := randomCrash(rng, d.Waits())
		d.Crash(keep, at)
		want.Crash(keep, at)
	case d.Dead() || n < 17:
		d.Start()
		want.Start()
	}
	return true
}

// TestRandomRows: rows of calls of all kinds, on new disks and on disks with whatever on them, held against the definition, with P11.4 and P11.5 on the way.
func TestRandomRows(t *testing.T) {
	rng := rand.New(rand.NewSource(1))
	for range 300 {
		d := disk.New()
		for range rng.Intn(12) {
			d.Write(rng.Intn(2)*half+rng.Intn(8), patterned(rng.Intn(513), rng.Intn(200)))
		}
		want := d.Copy()
		for range 50 {
			if !both(rng, d, want) {
				t.Fatal("not the same error")
			}
			alike(t, d, want)
			agrees(t, d, want)
			if d.Dead() || ageOf(d) > full-3 {
				continue
			}
			c, s, age := d.Copy(), randomText(rng), ageOf(d)
			c.Fuse(-1)
			ok(t, slots.Write(c, s))
			has(t, c, s, true, age+1)
			at, _ := newest(c)
			contains(t, c, at, age+1, s)
			ok(t, slots.Twice(c, s+"x"))
			has(t, c, s+"x", true, age+3)
			containTwice(t, c, age+3, s+"x")
		}
	}
}

// TestRowsOfThisLayer: P11.3 over rows of Writes and Twices alone, with fuses, and crashes behind what they stop.
func TestRowsOfThisLayer(t *testing.T) {
	rng := rand.New(rand.NewSource(2))
	for range 600 {
		d := disk.New()
		text, is := "", false
		for range 30 {
			s, by, call := randomText(rng), 1, slots.Write
			if rng.Intn(2) == 0 {
				by, call = 2, slots.Twice
			}
			age := slots.Age(d)
			d.Fuse(rng.Intn(30) - 1)
			e := call(d, s)
			d.Fuse(-1)
			if rng.Intn(2) == 0 || e != api.OK {
				keep, at := randomCrash(rng, d.Waits())
				d.Crash(keep, at)
				d.Start()
			}
			if e == api.OK {
				has(t, d, s, true, age+by)
				if by == 2 {
					containTwice(t, d, age+2, s)
				}
			} else {
				fails(t, e, api.ErrDead)
				either(t, d, text, is, age, s, by)
			}
			text, is = slots.Read(d)
		}
	}
}

// TestAskingChangesNothing: Read and Age of any disk change nothing on it, and burn no fuse.
func TestAskingChangesNothing(t *testing.T) {
	for _, b := range starts(t) {
		d, want := b.d.Copy(), b.d.Copy()
		d.Fuse(7)
		want.Fuse(7)
		for range 3 {
			agrees(t, d, want)
			alike(t, d, want)
		}
		if burnt(d) != 7 {
			t.Fatalf("%s: the fuse burnt", b.name)
		}
	}
}

// within reports whether two texts share memory.
func within(a, b string) bool {
	if a == "" || b == "" {
		return false
	}
	x, y := uintptr(unsafe.Pointer(unsafe.StringData(a))), uintptr(unsafe.Pointer(unsafe.StringData(b)))
	return x < y+uintptr(len(b)) && y < x+uintptr(len(a))
}

// TestSharesNothing: R1: a text that is handed in is not changed and not kept; what is read is new memory each time.
func TestSharesNothing(t *testing.T) {
	for _, n := range []int{0, 1, 8, 24, 511, 512, 513, 1024, 1500, 70000} {
		memory := []byte(patterned(n, 1))
		s := unsafe.String(unsafe.SliceData(memory), n)
		d, c := disk.New(), disk.New()
		ok(t, slots.Write(d, s))
		ok(t, slots.Twice(c, s))
		stopped := disk.New()
		stopped.Fuse(3 + n/512)
		fails(t, slots.Write(stopped, s), api.ErrDead)
		var answers []string
		for _, x := range []*disk.Disk{d, c, d, d.Copy()} {
			got, is := slots.Read(x)
			if got != patterned(n, 1) || !is {
				t.Fatalf("%d bytes: %s", n, short(got))
			}
			for at := range 4 {
				answers = append(answers, x.Read(at), x.Platter(half+at))
			}
			answers = append(answers, got)
		}
		for i, a := range answers {
			if within(a, s) {
				t.Fatalf("%d bytes: answer %d shares memory with what was written", n, i)
			}
			for _, b := range answers[:i] {
				if within(a, b) {
					t.Fatalf("%d bytes: answer %d shares memory with another one", n, i)
				}
			}
		}
		if string(memory) != patterned(n, 1) {
			t.Fatal("what was handed in is changed")
		}
		clear(memory)
		has(t, d, patterned(n, 1), true, 1)
		has(t, c, patterned(n, 1), true, 2)
		for i := range n / 512 {
			stopped.Start()
			if got := stopped.Read(1 + i); got != patterned(n, 1)[i*512:i*512+512] {
				t.Fatalf("%d bytes: the disk hangs on what was handed in: %s", n, short(got))
			}
		}
	}
}

// TestTwoDisks: nothing is kept from call to call but on the disk itself: two disks do not see each other, nor do a disk and its copy.
func TestTwoDisks(t *testing.T) {
	a, b := written(t, "a"), disk.New()
	has(t, b, "", false, 0)
	ok(t, slots.Twice(b, "b"))
	c := b.Copy()
	ok(t, slots.Write(c, "c"))
	has(t, a, "a", true, 1)
	has(t, b, "b", true, 2)
	has(t, c, "c", true, 3)
	ok(t, slots.Write(a, "d"))
	has(t, a, "d", true, 2)
	has(t, new(disk.Disk), "", false, 0)
	d := new(disk.Disk)
	ok(t, slots.Write(d, "e"))
	has(t, d, "e", true, 1)
}
