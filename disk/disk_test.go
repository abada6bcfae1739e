package disk_test

import (
	"math"
	"math/rand"
	"slices"
	"strconv"
	"strings"
	"testing"
	"unsafe"

	"consistory/api"
	"consistory/disk"
)

const last = api.MaxSectors - 1

// sector is the bytes of a sector.
type sector [api.Sector]byte

// of returns a text, padded by the definition.
func of(s string) (b sector) {
	for i := range len(s) {
		b[i] = s[i]
	}
	return b
}

// write is a write in the cache.
type write struct {
	at    int
	bytes sector
}

// model is a disk by the definition: what the package's disk is held against.
type model struct {
	platter map[int]sector
	cache   []write
	fuse    int // below 0: none
	dead    bool
}

func newModel() *model { return &model{platter: map[int]sector{}, fuse: -1} }

// burns reports whether one more write or sync is done.
func (m *model) burns() bool {
	switch {
	case m.fuse < 0:
		return true
	case m.fuse == 0:
		m.dead = true
		return false
	}
	m.fuse--
	return true
}

func (m *model) write(at int, s string) api.Errno {
	switch {
	case m.dead:
		return api.ErrDead
	case at < 0 || at > last:
		return api.ErrArg
	case len(s) > api.Sector:
		return api.ErrLong
	case !m.burns():
		return api.ErrDead
	}
	m.cache = append(m.cache, write{at, of(s)})
	return api.OK
}

func (m *model) sync() api.Errno {
	if m.dead || !m.burns() {
		return api.ErrDead
	}
	m.platter, m.cache = m.cached(), nil
	return api.OK
}

// cached returns the platter with all writes of the cache on it, from the first one on.
func (m *model) cached() map[int]sector {
	l := map[int]sector{}
	for at, b := range m.platter {
		l[at] = b
	}
	for _, w := range m.cache {
		l[w.at] = w.bytes
	}
	return l
}

func (m *model) setFuse(n int) { m.fuse = max(n, -1) }

// crash goes byte by byte.
func (m *model) crash(keep []bool, at int) {
	torn := false
	for k, w := range m.cache {
		leading := 0
		if k < len(keep) && keep[k] {
			leading = api.Sector
		} else if !torn {
			torn, leading = true, at
		}
		b := m.platter[w.at]
		for i := range b {
			if i < leading {
				b[i] = w.bytes[i]
			}
		}
		m.platter[w.at] = b
	}
	m.cache, m.dead = nil, true
}

func (m *model) start() { m.dead, m.fuse = false, -1 }

func (m *model) used() []int {
	var l []int
	for at, b := range m.platter {
		if b != (sector{}) {
			l = append(l, at)
		}
	}
	for _, w := range m.cache {
		if !slices.Contains(l, w.at) {
			l = append(l, w.at)
		}
	}
	slices.Sort(l)
	return slices.Compact(l)
}

func (m *model) copied() *model {
	n := *m
	n.platter, n.cache = map[int]sector{}, append([]write(nil), m.cache...)
	for at, b := range m.platter {
		n.platter[at] = b
	}
	return &n
}

// holds tells that everything that can be asked of a disk is what the model says, at some sectors, and that asking changes nothing.
func holds(t *testing.T, d *disk.Disk, m *model, sectors ...int) {
	t.Helper()
	if got := d.Dead(); got != m.dead {
		t.Fatalf("Dead: %v", got)
	}
	if got := d.Waits(); got != len(m.cache) {
		t.Fatalf("Waits: %d, not %d", got, len(m.cache))
	}
	if got, want := d.Used(), m.used(); !slices.Equal(got, want) {
		t.Fatalf("Used: %v, not %v", got, want)
	}
	cached := m.cached()
	for _, at := range sectors {
		read, on := cached[at], m.platter[at]
		want, platter := string(read[:]), string(on[:])
		if at < 0 || at > last {
			want, platter = "", ""
		}
		if m.dead {
			want = ""
		}
		if got := d.Platter(at); got != platter {
			t.Fatalf("Platter(%d): %s, not %s", at, short(got), short(platter))
		}
		if got := d.Read(at); got != want {
			t.Fatalf("Read(%d): %s, not %s", at, short(got), short(want))
		}
	}
}

// short tells a text without its trailing 00s, and its length.
func short(s string) string {
	return strconv.Quote(strings.TrimRight(s, "\x00")) + " of " + strconv.Itoa(len(s)) + " bytes"
}

// some are the sectors at the edges, and some that there are not.
func some() []int {
	return []int{math.MinInt, -api.MaxSectors, -2, -1, 0, 1, 2, 3, 255, 256, api.MaxSectors/2 - 1, api.MaxSectors / 2, last - 1, last, api.MaxSectors, api.MaxSectors + 1, 2*api.MaxSectors - 1, 1 << 32, math.MaxInt}
}

// absent are sectors that there are not.
func absent() []int {
	return []int{math.MinInt, math.MinInt + 1, -1 << 32, -api.MaxSectors, -2, -1, api.MaxSectors, api.MaxSectors + 1, api.MaxSectors + 3, 2 * api.MaxSectors, 1 << 32, 1<<32 + 3, math.MaxInt - 1, math.MaxInt}
}

// patterned returns n bytes, none of them 00, unlike ones about each other.
func patterned(n, seed int) string {
	b := make([]byte, n)
	for i := range b {
		b[i] = byte((i*7+i>>8+seed)%255) + 1
	}
	return string(b)
}

// zeros returns n bytes 00.
func zeros(n int) string { return string(make([]byte, n)) }

// bytesOf returns a text, padded.
func bytesOf(s string) string { return s + zeros(api.Sector-len(s)) }

func ok(t *testing.T, e api.Errno) {
	t.Helper()
	if e != api.OK {
		t.Fatalf("error %d", e)
	}
}

func fails(t *testing.T, e, want api.Errno) {
	t.Helper()
	if e != want {
		t.Fatalf("error %d, not %d", e, want)
	}
}

// pair is a disk and its model: each call is made at both, and what they answer has to be the same.
type pair struct {
	d *disk.Disk
	m *model
}

func newPair() pair { return pair{disk.New(), newModel()} }

func (p pair) copied() pair { return pair{p.d.Copy(), p.m.copied()} }

func (p pair) write(t *testing.T, at int, s string) api.Errno {
	t.Helper()
	e := p.d.Write(at, s)
	fails(t, e, p.m.write(at, s))
	return e
}

func (p pair) sync(t *testing.T) api.Errno {
	t.Helper()
	e := p.d.Sync()
	fails(t, e, p.m.sync())
	return e
}

func (p pair) fuse(n int) {
	p.d.Fuse(n)
	p.m.setFuse(n)
}

func (p pair) crash(keep []bool, at int) {
	p.d.Crash(keep, at)
	p.m.crash(keep, at)
}

func (p pair) start() {
	p.d.Start()
	p.m.start()
}

func (p pair) holds(t *testing.T, sectors ...int) {
	t.Helper()
	holds(t, p.d, p.m, sectors...)
}

// TestExamples: the chapter's own examples.
func TestExamples(t *testing.T) {
	d := disk.New()
	ok(t, d.Write(3, "ab"))
	if got := d.Read(3); got != "ab"+zeros(510) {
		t.Fatal("Read:", short(got))
	}
	if got := d.Platter(3); got != zeros(512) {
		t.Fatal("Platter:", short(got))
	}
	if got := d.Used(); !slices.Equal(got, []int{3}) {
		t.Fatal("Used:", got)
	}
	d.Crash(nil, 1)
	if got := d.Platter(3); got != "a"+zeros(511) || !d.Dead() {
		t.Fatal("Platter:", short(got))
	}
	d.Start()
	if d.Dead() {
		t.Fatal("dead")
	}
	d.Fuse(1)
	ok(t, d.Write(0, "x"))
	fails(t, d.Sync(), api.ErrDead)
	if got := d.Read(0); got != "" {
		t.Fatal("Read:", short(got))
	}

	d = disk.New()
	fails(t, d.Write(0, strings.Repeat("a", 513)), api.ErrLong)
	fails(t, d.Write(65536, ""), api.ErrArg)
}

// TestNew: P10.1 and P10.2 of a new disk: each sector is all 00, also where the disk was not made by New.
func TestNew(t *testing.T) {
	for _, d := range []*disk.Disk{disk.New(), new(disk.Disk), {}} {
		holds(t, d, newModel(), some()...)
		for at := range api.MaxSectors {
			if d.Read(at) != zeros(api.Sector) || d.Platter(at) != zeros(api.Sector) {
				t.Fatalf("sector %d is not all 00", at)
			}
		}
	}
	if a, b := disk.New(), disk.New(); a == b || a.Write(0, "a") != api.OK || b.Waits() != 0 {
		t.Fatal("two new disks are one")
	}
	d := new(disk.Disk)
	ok(t, d.Write(1, "a"))
	ok(t, d.Copy().Sync())
	ok(t, d.Sync())
	if got := d.Copy().Platter(1); got != bytesOf("a") {
		t.Fatal("Platter:", short(got))
	}
}

// TestWrite: P10.1 for texts of each length, at the first sector, the last one, and others, and P10.2 before and after a sync.
func TestWrite(t *testing.T) {
	sectors := []int{0, 1, 511, 512, 32767, 32768, last - 1, last}
	for n := range api.Sector + 1 {
		p := newPair()
		for i, at := range sectors {
			text := patterned(n, i)
			ok(t, p.write(t, at, text))
			if got := p.d.Read(at); got != bytesOf(text) {
				t.Fatalf("%d bytes: %s", n, short(got))
			}
			if got := p.d.Platter(at); got != zeros(api.Sector) {
				t.Fatalf("%d bytes: on the platter without a sync: %s", n, short(got))
			}
		}
		p.holds(t, some()...)
		ok(t, p.sync(t))
		for i, at := range sectors {
			if got := p.d.Platter(at); got != bytesOf(patterned(n, i)) {
				t.Fatalf("%d bytes: %s", n, short(got))
			}
		}
		p.holds(t, some()...)
	}
}

// TestOverwrite: a text that is shorter than the one before it leaves nothing of that, in the cache and on the platter.
func TestOverwrite(t *testing.T) {
	texts := []string{patterned(api.Sector, 1), "", "a", patterned(api.Sector, 2), zeros(1), patterned(api.Sector-1, 3), zeros(api.Sector), "b\x00c", "\x00", zeros(511) + "d", "\x00e", "\xFF"}
	for _, synced := range []bool{false, true} {
		for _, first := range texts {
			for _, second := range texts {
				p := newPair()
				ok(t, p.write(t, 7, first))
				if synced {
					ok(t, p.sync(t))
				}
				ok(t, p.write(t, 7, second))
				if got := p.d.Read(7); got != bytesOf(second) {
					t.Fatalf("%s after %s", short(got), short(first))
				}
				p.holds(t, 6, 7, 8)
				ok(t, p.sync(t))
				p.holds(t, 6, 7, 8)
			}
		}
	}
}

// TestAllSectors: each sector by itself, all of them at once.
func TestAllSectors(t *testing.T) {
	d := disk.New()
	var all []int
	for at := range api.MaxSectors {
		ok(t, d.Write(at, strconv.Itoa(at)+"x"))
		all = append(all, at)
	}
	if d.Waits() != api.MaxSectors || !slices.Equal(d.Used(), all) {
		t.Fatal("Waits:", d.Waits())
	}
	fails(t, d.Write(api.MaxSectors, "x"), api.ErrArg)
	ok(t, d.Sync())
	if d.Waits() != 0 || !slices.Equal(d.Used(), all) {
		t.Fatal("Waits:", d.Waits())
	}
	c := d.Copy()
	for at := range api.MaxSectors {
		want := bytesOf(strconv.Itoa(at) + "x")
		if d.Read(at) != want || d.Platter(at) != want || c.Read(at) != want {
			t.Fatalf("sector %d: %s", at, short(d.Read(at)))
		}
	}
	for at := range api.MaxSectors {
		ok(t, d.Write(at, ""))
	}
	ok(t, d.Sync())
	if got := d.Used(); len(got) != 0 {
		t.Fatalf("%d are used", len(got))
	}
}

// TestWrongWrites: what is refused changes nothing, and which error goes ahead.
func TestWrongWrites(t *testing.T) {
	long := []int{api.Sector + 1, api.Sector + 2, 2 * api.Sector, 65536, 65536 + api.Sector, 1 << 20}
	p := newPair()
	ok(t, p.write(t, 3, "on"))
	ok(t, p.sync(t))
	ok(t, p.write(t, last, "in"))
	for _, at := range absent() {
		for _, n := range append(long, 0, 1, api.Sector) {
			fails(t, p.write(t, at, patterned(n, 0)), api.ErrArg)
		}
	}
	for _, n := range long {
		for _, at := range []int{0, 3, last} {
			fails(t, p.write(t, at, patterned(n, 0)), api.ErrLong)
			fails(t, p.write(t, at, zeros(n)), api.ErrLong)
		}
	}
	p.holds(t, some()...)
}

// TestErrors: each error by itself and in the table's row: dead, no such sector, too long, the fuse.
func TestErrors(t *testing.T) {
	texts := map[string]bool{"": false, "a": false, patterned(api.Sector, 0): false, patterned(api.Sector+1, 0): true}
	for _, dead := range []bool{false, true} {
		for _, out := range []bool{false, true} {
			for _, at := range some() {
				for text, long := range texts {
					p := newPair()
					ok(t, p.write(t, 1, "cached"))
					if dead {
						p.fuse(0)
						fails(t, p.sync(t), api.ErrDead)
					}
					if out {
						p.fuse(0)
					}
					want := api.OK
					switch {
					case dead:
						want = api.ErrDead
					case at < 0 || at > last:
						want = api.ErrArg
					case long:
						want = api.ErrLong
					case out:
						want = api.ErrDead
					}
					fails(t, p.write(t, at, text), want)
					if p.d.Dead() != (want == api.ErrDead) {
						t.Fatalf("Dead: %v behind the error %d", p.d.Dead(), want)
					}
					p.holds(t, at, 1)
				}
			}
		}
	}
}

// TestSeveralWrites: of several writes to one sector the last one is read, the first ones are put on the platter before it.
func TestSeveralWrites(t *testing.T) {
	p := newPair()
	for i := range 20 {
		ok(t, p.write(t, 5, patterned(20-i, i)))
		ok(t, p.write(t, 6+i%3, patterned(i, i)))
		if got := p.d.Read(5); got != bytesOf(patterned(20-i, i)) {
			t.Fatalf("write %d: %s", i, short(got))
		}
		p.holds(t, 4, 5, 6, 7, 8, 9)
	}
	if p.d.Waits() != 40 {
		t.Fatal("Waits:", p.d.Waits())
	}
	ok(t, p.sync(t))
	p.holds(t, 4, 5, 6, 7, 8, 9)
	if got := p.d.Platter(5); got != bytesOf(patterned(1, 19)) {
		t.Fatal("Platter:", short(got))
	}
}

// TestSync: of an empty cache, again and again, and between writes.
func TestSync(t *testing.T) {
	p := newPair()
	ok(t, p.sync(t))
	p.holds(t, some()...)
	for i := range 5 {
		ok(t, p.write(t, i, patterned(3, i)))
		p.holds(t, some()...)
		for range 3 {
			ok(t, p.sync(t))
			p.holds(t, some()...)
		}
		ok(t, p.write(t, 0, patterned(4, i)))
	}
}

// calls are calls that a fuse counts, and those that it does not.
var calls = []struct {
	name  string
	burns bool
	call  func(d *disk.Disk) api.Errno
}{
	{"Write", true, func(d *disk.Disk) api.Errno { return d.Write(2, "w") }},
	{"Write of nothing", true, func(d *disk.Disk) api.Errno { return d.Write(0, "") }},
	{"Sync", true, func(d *disk.Disk) api.Errno { return d.Sync() }},
	{"no sector", false, func(d *disk.Disk) api.Errno { d.Write(-1, "a"); d.Write(api.MaxSectors, ""); return api.OK }},
	{"too long", false, func(d *disk.Disk) api.Errno { d.Write(0, zeros(api.Sector+1)); return api.OK }},
	{"Read", false, func(d *disk.Disk) api.Errno { d.Read(2); d.Platter(2); return api.OK }},
	{"Waits", false, func(d *disk.Disk) api.Errno { d.Waits(); d.Used(); d.Dead(); return api.OK }},
	{"Copy", false, func(d *disk.Disk) api.Errno { d.Copy().Sync(); d.Copy().Write(0, "a"); return api.OK }},
}

// TestFuse: P10.6: with each fuse, after any calls, exactly so many are done, and the next one kills the disk, which does nothing then.
func TestFuse(t *testing.T) {
	rng := rand.New(rand.NewSource(1))
	for n := range 40 {
		for range 30 {
			d := disk.New()
			for range rng.Intn(3) {
				ok(t, d.Write(rng.Intn(4), "before"))
			}
			d.Fuse(n)
			left := n
			for !d.Dead() {
				c := calls[rng.Intn(len(calls))]
				waits := d.Waits()
				e := c.call(d)
				switch {
				case !c.burns || left > 0:
					fails(t, e, api.OK)
				default:
					fails(t, e, api.ErrDead)
					if !d.Dead() || d.Waits() != waits {
						t.Fatalf("%s behind a fuse of %d: done", c.name, n)
					}
				}
				if c.burns {
					left--
				}
				if d.Dead() != (left < 0) {
					t.Fatalf("%s, fuse of %d: dead: %v, %d left", c.name, n, d.Dead(), left)
				}
			}
			for range 5 {
				fails(t, d.Sync(), api.ErrDead)
				fails(t, d.Write(0, "a"), api.ErrDead)
				fails(t, d.Write(-1, zeros(600)), api.ErrDead)
			}
			d.Start()
			for range n + 5 {
				ok(t, d.Write(0, "a"))
				ok(t, d.Sync())
			}
		}
	}
}

// TestFuseEnds: fuses of 0, 1, 2 that run out at a Write, and at a Sync: neither is done, and what is in the cache remains.
func TestFuseEnds(t *testing.T) {
	for n := range 4 {
		for _, atSync := range []bool{false, true} {
			p := newPair()
			ok(t, p.write(t, 9, "on"))
			ok(t, p.sync(t))
			ok(t, p.write(t, 9, "in"))
			p.fuse(n)
			if p.d.Dead() {
				t.Fatal("a fuse alone kills")
			}
			for i := range n {
				ok(t, p.write(t, i, "w"))
			}
			p.holds(t, some()...)
			if atSync {
				fails(t, p.sync(t), api.ErrDead)
			} else {
				fails(t, p.write(t, 9, "lost"), api.ErrDead)
			}
			p.holds(t, append(some(), 9)...)
			if p.d.Waits() != n+1 || p.d.Platter(9) != bytesOf("on") || p.d.Read(9) != "" {
				t.Fatalf("fuse %d: %d writes, %s", n, p.d.Waits(), short(p.d.Platter(9)))
			}
			p.start()
			p.holds(t, append(some(), 9)...)
			if p.d.Waits() != n+1 || p.d.Read(9) != bytesOf("in") {
				t.Fatalf("fuse %d: %d writes, %s", n, p.d.Waits(), short(p.d.Read(9)))
			}
		}
	}
}

// TestFuseAnew: a fuse takes the place of the one before it, also by none, and none is there below 0.
func TestFuseAnew(t *testing.T) {
	done := func(d *disk.Disk) int {
		for i := range 30 {
			if d.Sync() != api.OK {
				return i
			}
		}
		return 30
	}
	none := []int{-1, -2, -3, -256, -1 << 32, math.MinInt, math.MinInt + 1}
	for _, n := range none {
		d := disk.New()
		d.Fuse(n)
		if done(d) != 30 || d.Dead() {
			t.Fatal("a fuse of", n)
		}
	}
	fuses := append(none, 0, 1, 2, 9, 29, 30, 255, 256, 1<<32, math.MaxInt)
	for _, a := range fuses {
		for _, b := range fuses {
			for _, between := range []int{0, 1, 5} {
				d := disk.New()
				d.Fuse(a)
				for range between {
					d.Sync()
				}
				if d.Dead() {
					d.Fuse(b)
					if !d.Dead() || done(d) != 0 {
						t.Fatalf("a dead disk lives by a fuse of %d", b)
					}
					continue
				}
				d.Fuse(b)
				want := 30
				if b >= 0 {
					want = min(want, b)
				}
				if got := done(d); got != want || d.Dead() != (want < 30) {
					t.Fatalf("fuses of %d and %d: %d", a, b, got)
				}
			}
		}
	}
}

// died returns pairs of disks that are dead by each way, with a row of writes in their caches, and without any.
func died(t *testing.T) map[string]pair {
	l := map[string]pair{}
	for _, empty := range []bool{false, true} {
		for name, kill := range map[string]func(p pair){
			"fuse, Write": func(p pair) { p.fuse(0); p.write(t, 0, "x") },
			"fuse, Sync":  func(p pair) { p.fuse(0); p.sync(t) },
			"fuse of 1":   func(p pair) { p.fuse(1); p.write(t, 2, "z"); p.sync(t) },
			"crash":       func(p pair) { p.crash([]bool{true}, 1) },
			"crash twice": func(p pair) { p.crash([]bool{false, true}, 1); p.crash(nil, 5) },
		} {
			p := newPair()
			ok(t, p.write(t, 1, "one"))
			ok(t, p.write(t, last, "last"))
			ok(t, p.sync(t))
			if !empty {
				ok(t, p.write(t, 1, "two"))
				ok(t, p.write(t, 2, "three"))
				ok(t, p.write(t, last, ""))
				name += ", with writes"
			}
			kill(p)
			l[name] = p
		}
	}
	return l
}

// TestDead: a dead disk does nothing, reads nothing, and tells its platter, and what remains in its cache; a fuse does not bring it back.
func TestDead(t *testing.T) {
	for name, p := range died(t) {
		t.Run(name, func(t *testing.T) {
			for range 2 {
				p.holds(t, some()...)
				if !p.d.Dead() || p.d.Read(1) != "" || p.d.Platter(last) == "" {
					t.Fatal("not dead")
				}
				for _, at := range append(some(), 1) {
					for _, text := range []string{"", "a", zeros(600)} {
						fails(t, p.d.Write(at, text), api.ErrDead)
					}
				}
				fails(t, p.d.Sync(), api.ErrDead)
				p.holds(t, some()...)
				for _, n := range []int{0, 1, -1, 100} {
					p.fuse(n)
					fails(t, p.d.Write(0, "a"), api.ErrDead)
					fails(t, p.d.Sync(), api.ErrDead)
					p.holds(t, some()...)
				}
			}
			p.fuse(0)
			p.start()
			p.holds(t, some()...)
			for range 4 {
				ok(t, p.write(t, 0, "a"))
				ok(t, p.sync(t))
				p.holds(t, some()...)
			}
		})
	}
}

// TestCrashDead: the cache of a dead disk is lost by a crash as another one's is, and only by that.
func TestCrashDead(t *testing.T) {
	for name, dead := range died(t) {
		t.Run(name, func(t *testing.T) {
			for _, keep := range [][]bool{nil, {true}, {true, true, true, true}, {false, true, true}} {
				for _, at := range []int{-1, 0, 1, 2, api.Sector} {
					p := dead.copied()
					p.crash(keep, at)
					p.holds(t, some()...)
					if !p.d.Dead() || p.d.Waits() != 0 {
						t.Fatal("not dead, or something waits")
					}
					p.start()
					p.holds(t, some()...)
					ok(t, p.write(t, 2, "a"))
					ok(t, p.sync(t))
					p.holds(t, some()...)
				}
			}
		})
	}
}

// rows returns rows that say which of n writes are kept: none, all, every second one, one only, all but one; shorter and longer ones.
func rows(n int) [][]bool {
	l := [][]bool{nil, {}}
	for _, size := range []int{n - 1, n, n + 1, n + 600} {
		for _, kept := range []func(k int) bool{
			func(int) bool { return false },
			func(int) bool { return true },
			func(k int) bool { return k%2 == 0 },
			func(k int) bool { return k%2 == 1 },
			func(k int) bool { return k == 0 },
			func(k int) bool { return k == 1 },
			func(k int) bool { return k == n-1 },
			func(k int) bool { return k != 0 },
			func(k int) bool { return k != 1 },
			func(k int) bool { return k >= n },
		} {
			row := make([]bool, max(size, 0))
			for k := range row {
				row[k] = kept(k)
			}
			l = append(l, row)
		}
	}
	return l
}

// places are the numbers of leading bytes.
func places() []int {
	return []int{math.MinInt, -api.Sector, -1, 0, 1, 2, 255, 256, api.Sector - 1, api.Sector, api.Sector + 1, 2 * api.Sector, 1 << 32, math.MaxInt}
}

// caches are rows of writes: to unlike sectors, and all to the same ones.
func caches() map[string][]write {
	l := map[string][]write{"none": nil}
	for _, n := range []int{1, 2, 3, 4, 7, 20} {
		for name, at := range map[string]func(i int) int{
			" apart":    func(i int) int { return last - i },
			" together": func(int) int { return 4 },
			" by two":   func(i int) int { return i % 2 * last },
		} {
			var writes []write
			for i := range n {
				writes = append(writes, write{at(i), of(patterned(api.Sector-i%3, 3*i))})
			}
			l[strconv.Itoa(n)+name] = writes
		}
	}
	return l
}

// TestCrash: each of these caches, on each of these platters, by each of these crashes.
func TestCrash(t *testing.T) {
	sectors := append(some(), 4, last-2, last-3)
	for name, writes := range caches() {
		t.Run(name, func(t *testing.T) {
			for _, before := range []string{"", patterned(api.Sector, 100)} {
				p := newPair()
				for _, at := range sectors {
					p.write(t, at, before)
				}
				ok(t, p.sync(t))
				for _, w := range writes {
					ok(t, p.write(t, w.at, string(w.bytes[:])))
				}
				for _, keep := range rows(len(writes)) {
					for _, at := range places() {
						c, kept := p.copied(), slices.Clone(keep)
						c.crash(keep, at)
						c.holds(t, sectors...)
						if !slices.Equal(keep, kept) {
							t.Fatal("keep is changed")
						}
					}
				}
			}
		})
	}
}

// TestTorn: each number of leading bytes of one write, on a platter of all 00 and of others.
func TestTorn(t *testing.T) {
	text, before := patterned(api.Sector, 5), patterned(api.Sector, 90)
	for _, old := range []string{"", "ab", before} {
		for at := -3; at <= api.Sector+3; at++ {
			d := disk.New()
			ok(t, d.Write(1, old))
			ok(t, d.Sync())
			ok(t, d.Write(1, text))
			d.Crash(nil, at)
			n := max(0, min(at, api.Sector))
			if got, want := d.Platter(1), text[:n]+bytesOf(old)[n:]; got != want {
				t.Fatalf("%d bytes over %s: %s", at, short(old), short(got))
			}
		}
	}
	// A short text is torn with the 00s behind it.
	d := disk.New()
	ok(t, d.Write(1, before))
	ok(t, d.Sync())
	ok(t, d.Write(1, "ab"))
	d.Crash([]bool{false, true}, 5)
	if got := d.Platter(1); got != "ab\x00\x00\x00"+before[5:] {
		t.Fatal(short(got))
	}
}

// TestTornOverKept: what the torn write overwrites is what the platter has by then; the writes behind it that are kept are put over it.
func TestTornOverKept(t *testing.T) {
	crashed := func(keep []bool, at int, texts ...string) *disk.Disk {
		d := disk.New()
		ok(t, d.Write(8, "platter"))
		ok(t, d.Sync())
		for _, text := range texts {
			ok(t, d.Write(8, text))
		}
		d.Crash(keep, at)
		return d
	}
	for _, c := range []struct {
		keep []bool
		at   int
		want string
	}{
		{[]bool{true, false, false}, 2, "BBrst"},
		{[]bool{true, false, false}, 0, "first"},
		{[]bool{true, false, true}, 2, "C"},
		{[]bool{false, true, true}, 2, "C"},
		{[]bool{false, true, false}, 2, "BBBBBBBBB"},
		{[]bool{false, false, false}, 2, "fiatter"},
		{[]bool{false, false}, 5, "firster"},
		{[]bool{true}, 5, "BBBBB"},
		{[]bool{true, true, false}, 1, "CBBBBBBBB"},
		{[]bool{true, true, false}, 2, "C\x00BBBBBBB"},
		{[]bool{true, true, true}, 2, "C"},
		{[]bool{true, true, true, false}, 2, "C"},
		{[]bool{false, false, true}, 3, "C"},
	} {
		if got := crashed(c.keep, c.at, "first", "BBBBBBBBB", "C").Platter(8); got != bytesOf(c.want) {
			t.Errorf("%v, %d: %s, not %q", c.keep, c.at, short(got), c.want)
		}
	}
}

// TestTornOnce: of the writes that are not kept only the first one is torn, also where it is to another sector.
func TestTornOnce(t *testing.T) {
	for torn := range 6 {
		d := disk.New()
		keep := make([]bool, 6)
		for i := range 6 {
			ok(t, d.Write(i, patterned(api.Sector, i)))
			keep[i] = i < torn
		}
		d.Crash(keep, 100)
		for i := range 6 {
			want := patterned(api.Sector, i)
			switch {
			case i == torn:
				want = bytesOf(want[:100])
			case i > torn:
				want = zeros(api.Sector)
			}
			if got := d.Platter(i); got != want {
				t.Fatalf("sector %d, the %d-th one torn: %s", i, torn, short(got))
			}
		}
	}
}

// TestCrashEmpties: after a crash nothing of the cache comes back, and it is dead until it starts; the crash of an empty cache changes no sector.
func TestCrashEmpties(t *testing.T) {
	p := newPair()
	for _, keep := range rows(3) {
		p.crash(keep, api.Sector)
		p.holds(t, some()...)
		p.start()
	}
	ok(t, p.write(t, 3, "a"))
	ok(t, p.sync(t))
	for range 3 {
		p.crash([]bool{true, true}, api.Sector)
		p.holds(t, some()...)
	}
	p.start()
	ok(t, p.write(t, 3, "b"))
	ok(t, p.write(t, 0, "c"))
	p.crash(nil, 0)
	p.holds(t, some()...)
	p.crash([]bool{true, true}, api.Sector)
	p.start()
	ok(t, p.sync(t))
	p.holds(t, some()...)
	if p.d.Read(3) != bytesOf("a") || p.d.Waits() != 0 || !slices.Equal(p.d.Used(), []int{3}) {
		t.Fatal("something of the cache came back")
	}
}

// TestStart: of a disk that is not dead, with and without a fuse: it has none then, and nothing else changes.
func TestStart(t *testing.T) {
	for _, n := range []int{-1, 0, 1, 3} {
		p := newPair()
		ok(t, p.write(t, 1, "on"))
		ok(t, p.sync(t))
		ok(t, p.write(t, 1, "in"))
		ok(t, p.write(t, 0, ""))
		p.fuse(n)
		for range 2 {
			p.start()
			p.holds(t, some()...)
		}
		for range 10 {
			ok(t, p.write(t, 2, "a"))
			p.holds(t, some()...)
			ok(t, p.sync(t))
			p.holds(t, some()...)
		}
		p.fuse(1)
		ok(t, p.sync(t))
		fails(t, p.sync(t), api.ErrDead)
	}
}

// TestStartWithCache: a disk that died by its fuse has, when it starts without a crash, what was in its cache.
func TestStartWithCache(t *testing.T) {
	p := newPair()
	ok(t, p.write(t, 1, "a"))
	p.fuse(0)
	fails(t, p.write(t, 2, "b"), api.ErrDead)
	p.start()
	p.holds(t, some()...)
	if p.d.Waits() != 1 || p.d.Read(1) != bytesOf("a") || p.d.Read(2) != zeros(api.Sector) {
		t.Fatal("not what was in the cache")
	}
	ok(t, p.sync(t))
	p.holds(t, some()...)
	if p.d.Platter(1) != bytesOf("a") {
		t.Fatal("not what was in the cache")
	}
}

// TestUsed: sectors that a write has turned into all 00, and those to which something that is all 00 waits to be written; in increasing order, each once.
func TestUsed(t *testing.T) {
	used := func(d *disk.Disk, want ...int) {
		t.Helper()
		for range 2 {
			if got := d.Used(); !slices.Equal(got, want) {
				t.Fatalf("Used: %v, not %v", got, want)
			}
		}
	}
	d := disk.New()
	used(d)
	for _, at := range []int{last, 5, 40000, 0, 5, 7, 0} {
		ok(t, d.Write(at, "a"))
	}
	used(d, 0, 5, 7, 40000, last)
	ok(t, d.Sync())
	used(d, 0, 5, 7, 40000, last)
	ok(t, d.Write(5, ""))
	ok(t, d.Write(6, zeros(api.Sector)))
	used(d, 0, 5, 6, 7, 40000, last)
	ok(t, d.Sync())
	used(d, 0, 7, 40000, last)
	ok(t, d.Write(0, "\x00"))
	ok(t, d.Write(7, ""))
	ok(t, d.Write(7, "b"))
	ok(t, d.Write(last, zeros(511)+"b"))
	ok(t, d.Write(1, ""))
	ok(t, d.Write(1, ""))
	used(d, 0, 1, 7, 40000, last)
	c := d.Copy()
	d.Fuse(0)
	fails(t, d.Write(2, "a"), api.ErrDead)
	used(d, 0, 1, 7, 40000, last)
	d.Start()
	ok(t, d.Sync())
	used(d, 7, 40000, last)
	// Torn, a write of 00s may leave something, or nothing.
	c.Crash(nil, 1)
	used(c, 7, 40000, last)
	c.Start()
	ok(t, c.Write(40000, ""))
	e := c.Copy()
	c.Crash(nil, 0)
	used(c, 7, 40000, last)
	e.Crash(nil, 1)
	used(e, 7, last)
	// A torn write whose leading bytes are 00 leaves a sector all 00.
	f := disk.New()
	ok(t, f.Write(3, "\x00\x00a"))
	g := f.Copy()
	f.Crash(nil, 2)
	used(f)
	g.Crash(nil, 3)
	used(g, 3)
}

// TestUsedEachByte: a single byte that is not 00, at each place.
func TestUsedEachByte(t *testing.T) {
	for i := range api.Sector {
		for _, b := range []string{"\x01", "\x80", "\xFF", "0", " "} {
			d := disk.New()
			ok(t, d.Write(9, zeros(i)+b))
			ok(t, d.Sync())
			if got := d.Used(); !slices.Equal(got, []int{9}) || d.Platter(9) != bytesOf(zeros(i)+b) {
				t.Fatalf("%q at %d: %v", b, i, got)
			}
		}
	}
}

// TestNil: each call on a disk that is nil.
func TestNil(t *testing.T) {
	var d *disk.Disk
	for _, at := range some() {
		for _, text := range []string{"", "a", zeros(600)} {
			fails(t, d.Write(at, text), api.ErrNil)
		}
		if d.Read(at) != "" || d.Platter(at) != "" {
			t.Fatal("nil has sectors")
		}
		d.Fuse(at)
		d.Crash([]bool{true, false}, at)
		d.Start()
	}
	fails(t, d.Sync(), api.ErrNil)
	d.Crash(nil, 0)
	if d.Waits() != 0 || len(d.Used()) != 0 || !d.Dead() || d.Copy() != nil {
		t.Fatal("nil has something, or lives")
	}
}

// call is one call, with what it is called with.
type call struct {
	kind int
	at   int
	text string
	keep []bool
}

// The kinds of calls.
const (
	aWrite = iota
	aSync
	aFuse
	aCrash
	aStart
	kinds
)

// do makes a call at both.
func (p pair) do(t *testing.T, c call) api.Errno {
	t.Helper()
	switch c.kind {
	case aWrite:
		return p.write(t, c.at, c.text)
	case aSync:
		return p.sync(t)
	case aFuse:
		p.fuse(c.at)
	case aCrash:
		p.crash(c.keep, c.at)
	case aStart:
		p.start()
	}
	return api.OK
}

// TestEachRow: each row of up to 5 of some calls, held against the definition; each call is made at a copy, and the disk itself is as it was.
func TestEachRow(t *testing.T) {
	alphabet := []call{
		{kind: aWrite, at: 0, text: "ab"},
		{kind: aWrite, at: 0, text: patterned(api.Sector, 3)},
		{kind: aWrite, at: last},
		{kind: aWrite, at: last, text: "c"},
		{kind: aWrite, at: api.MaxSectors},
		{kind: aSync},
		{kind: aFuse, at: 0},
		{kind: aFuse, at: 2},
		{kind: aCrash, at: 1},
		{kind: aCrash, at: api.Sector, keep: []bool{false, true, true}},
		{kind: aCrash, at: 0, keep: []bool{true, false, true}},
		{kind: aStart},
	}
	var follow func(p pair, depth int)
	follow = func(p pair, depth int) {
		p.holds(t, -1, 0, last)
		if depth == 0 {
			return
		}
		for _, c := range alphabet {
			next := p.copied()
			next.do(t, c)
			follow(next, depth-1)
		}
		p.holds(t, 0, last)
	}
	follow(newPair(), 5)
}

// randomText returns a text, often of 00s, or with 00s in it.
func randomText(rng *rand.Rand) string {
	n := []int{0, 1, 2, 3, 100, 511, 512, 512, 513}[rng.Intn(9)]
	switch rng.Intn(4) {
	case 0:
		return zeros(n)
	case 1:
		return zeros(n/2) + patterned(n-n/2, rng.Intn(200))
	}
	return patterned(n, rng.Intn(200))
}

// randomKeep returns a row for a cache of n writes, of any length about n.
func randomKeep(rng *rand.Rand, n int) []bool {
	keep := make([]bool, rng.Intn(n+3))
	odds := 1 + rng.Intn(6)
	for k := range keep {
		keep[k] = rng.Intn(odds) > 0
	}
	return keep
}

// randomSector returns one of few sectors, so that they meet, at times one that there is not.
func randomSector(rng *rand.Rand) int {
	if rng.Intn(30) == 0 {
		return absent()[rng.Intn(len(absent()))]
	}
	return []int{0, 1, 2, 3, last - 1, last}[rng.Intn(6)]
}

// randomCall returns a call of any kind, most of them writes.
func randomCall(rng *rand.Rand, p pair) call {
	switch n := rng.Intn(40); {
	case n < 26:
		return call{kind: aWrite, at: randomSector(rng), text: randomText(rng)}
	case n < 31:
		return call{kind: aSync}
	case n < 33:
		return call{kind: aFuse, at: rng.Intn(14) - 2}
	case n < 35:
		return call{kind: aCrash, at: rng.Intn(2*api.Sector) - api.Sector/2, keep: randomKeep(rng, p.d.Waits())}
	}
	if p.d.Dead() || rng.Intn(10) == 0 {
		return call{kind: aStart}
	}
	return call{kind: aWrite, at: randomSector(rng), text: randomText(rng)}
}

// sectors are those that random calls use, and some beside them.
func sectors() []int { return append(absent(), 0, 1, 2, 3, 4, last-2, last-1, last) }

// walk makes many rows of random calls, and tells each one to see, with how the disk was before it.
func walk(t *testing.T, seed int64, see func(rng *rand.Rand, before, p pair, c call, e api.Errno)) {
	t.Helper()
	rng := rand.New(rand.NewSource(seed))
	for range 400 {
		p := newPair()
		for range 60 {
			before, c := p.copied(), call{}
			c = randomCall(rng, p)
			e := p.do(t, c)
			see(rng, before, p, c, e)
		}
	}
}

// TestRandomRows: rows of calls of all kinds, held against the definition.
func TestRandomRows(t *testing.T) {
	walk(t, 2, func(rng *rand.Rand, before, p pair, c call, e api.Errno) { p.holds(t, sectors()...) })
}

// TestReading: P10.3: what was last written is read, until another write or a crash; other sectors are unchanged.
func TestReading(t *testing.T) {
	read := map[int]string{}
	walk(t, 3, func(rng *rand.Rand, before, p pair, c call, e api.Errno) {
		if len(before.d.Used()) == 0 || c.kind == aCrash { // the disk was new, or as good as that
			clear(read)
		}
		if c.kind == aWrite && e == api.OK {
			read[c.at] = bytesOf(c.text)
			for _, at := range sectors() {
				if at != c.at && p.d.Read(at) != before.d.Read(at) {
					t.Fatalf("Write to %d changed %d", c.at, at)
				}
			}
		}
		if p.d.Dead() {
			return
		}
		for at, want := range read {
			if got := p.d.Read(at); got != want {
				t.Fatalf("Read(%d): %s, not %s", at, short(got), short(want))
			}
		}
	})
}

// platter returns the sectors of a platter.
func platter(d *disk.Disk) map[int]string {
	l := map[int]string{}
	for _, at := range sectors() {
		l[at] = d.Platter(at)
	}
	return l
}

// asRead returns the sectors as they are read.
func asRead(d *disk.Disk) map[int]string {
	l := map[int]string{}
	for _, at := range sectors() {
		l[at] = d.Read(at)
	}
	return l
}

func same(a, b map[int]string) bool {
	for at := range a {
		if a[at] != b[at] {
			return false
		}
	}
	return len(a) == len(b)
}

// TestSyncing: P10.4: the platter stays until a sync or a crash; after a sync it is what was read before it, also after any crash, until something is written.
func TestSyncing(t *testing.T) {
	walk(t, 4, func(rng *rand.Rand, before, p pair, c call, e api.Errno) {
		synced := c.kind == aSync && e == api.OK
		if !synced && c.kind != aCrash && !same(platter(before.d), platter(p.d)) {
			t.Fatal("the platter changed without a sync or a crash")
		}
		if !synced {
			return
		}
		want := asRead(before.d)
		d := p.d.Copy()
		for i := range 4 {
			if !same(platter(d), want) || d.Waits() != 0 || !d.Dead() && !same(asRead(d), want) {
				t.Fatalf("not what was read before the sync, after %d crashes", i)
			}
			d.Crash(randomKeep(rng, 5), rng.Intn(api.Sector))
			if rng.Intn(2) == 0 {
				d.Start()
			}
		}
	})
}

// TestAfterCrash: P10.5: all kept: what was read; nothing: unchanged; otherwise each sector is what it was, or a write of it, except for at most one.
func TestAfterCrash(t *testing.T) {
	walk(t, 5, func(rng *rand.Rand, before, p pair, c call, e api.Errno) {
		if before.d.Dead() {
			return
		}
		all, none := before.copied(), before.copied()
		all.crash(slices.Repeat([]bool{true}, before.d.Waits()+rng.Intn(2)), rng.Intn(api.Sector))
		if !same(platter(all.d), asRead(before.d)) {
			t.Fatal("everything is kept, and it is not what was read")
		}
		none.crash(make([]bool, rng.Intn(before.d.Waits()+2)), -rng.Intn(2))
		if !same(platter(none.d), platter(before.d)) {
			t.Fatal("nothing is kept, and it is not unchanged")
		}
		some := before.copied()
		at := rng.Intn(api.Sector)
		some.crash(randomKeep(rng, before.d.Waits()), at)
		torn := 0
		for _, n := range sectors() {
			got := some.d.Platter(n)
			whole := got == before.d.Platter(n)
			for _, w := range before.m.cache {
				whole = whole || w.at == n && got == string(w.bytes[:])
			}
			if !whole {
				torn++
			}
		}
		if torn > 1 {
			t.Fatalf("%d sectors are torn", torn)
		}
	})
}

// TestFuseOverRows: P10.6 over rows of calls of all kinds but fuses and starts.
func TestFuseOverRows(t *testing.T) {
	rng := rand.New(rand.NewSource(6))
	for range 1500 {
		p := newPair()
		for range rng.Intn(20) {
			p.do(t, randomCall(rng, p))
		}
		p.start()
		n, done := rng.Intn(20), 0
		p.fuse(n)
		for !p.d.Dead() {
			c := randomCall(rng, p)
			if c.kind != aWrite && c.kind != aSync {
				continue
			}
			if p.do(t, c) == api.OK {
				done++
			}
		}
		if done != n {
			t.Fatalf("a fuse of %d: %d are done", n, done)
		}
		for range 20 {
			c := randomCall(rng, p)
			if c.kind != aStart && p.do(t, c) == api.OK && (c.kind == aWrite || c.kind == aSync) {
				t.Fatal("a dead disk did something")
			}
		}
		p.holds(t, sectors()...)
	}
}

// TestCopies: P10.7: a copy is as the disk is, with its cache, its fuse, and dead as that is; then each goes its own way.
func TestCopies(t *testing.T) {
	rng := rand.New(rand.NewSource(7))
	for range 800 {
		p := newPair()
		for range rng.Intn(40) {
			p.do(t, randomCall(rng, p))
		}
		l := []pair{p, p.copied(), p.copied().copied()}
		for _, p := range l {
			p.holds(t, sectors()...)
		}
		for range 60 {
			i := rng.Intn(len(l))
			l[i].do(t, randomCall(rng, l[i]))
			for _, p := range l {
				p.holds(t, 0, 1, 2, 3, last-1, last)
			}
		}
	}
}

// TestCopyOfFuse: a copy has the fuse that the disk has by then, and each burns its own.
func TestCopyOfFuse(t *testing.T) {
	for n := range 5 {
		for burnt := range n + 1 {
			d := disk.New()
			d.Fuse(n)
			for range burnt {
				ok(t, d.Sync())
			}
			c := d.Copy()
			for _, x := range []*disk.Disk{c, d} {
				for range n - burnt {
					ok(t, x.Write(0, "a"))
				}
				fails(t, x.Write(0, "a"), api.ErrDead)
			}
			if c.Waits() != n-burnt || d.Waits() != n-burnt {
				t.Fatal("Waits:", c.Waits(), d.Waits())
			}
			if e := c.Copy(); !e.Dead() {
				t.Fatal("the copy of a dead disk lives")
			}
			c.Start()
			if !d.Dead() || c.Dead() {
				t.Fatal("a copy that starts starts the disk")
			}
		}
	}
}

// TestCopiesOfCache: caches that are extended at a disk and its copy do not overwrite each other, whatever room they have.
func TestCopiesOfCache(t *testing.T) {
	for n := range 20 {
		p := newPair()
		for i := range n {
			ok(t, p.write(t, i, "a"))
		}
		c := p.copied()
		ok(t, p.write(t, 1, "disk"))
		ok(t, c.write(t, 2, "copy"))
		ok(t, p.write(t, 3, "disk"))
		p.holds(t, some()...)
		c.holds(t, some()...)
		c.crash([]bool{true}, 2)
		p.holds(t, some()...)
		c.holds(t, some()...)
	}
}

// within reports whether two texts share memory.
func within(a, b string) bool {
	if a == "" || b == "" {
		return false
	}
	x, y := uintptr(unsafe.Pointer(unsafe.StringData(a))), uintptr(unsafe.Pointer(unsafe.StringData(b)))
	return x < y+uintptr(len(b)) && y < x+uintptr(len(a))
}

// TestSharesNothing: R1: no answer shares memory with what was written, with another answer, or with the disk; keep is not kept.
func TestSharesNothing(t *testing.T) {
	for _, n := range []int{0, 1, 511, 512} {
		memory := []byte(patterned(n, 1))
		s := unsafe.String(unsafe.SliceData(memory), n)
		d := disk.New()
		ok(t, d.Write(1, s))
		clear(memory)
		if got := d.Read(1); got != bytesOf(patterned(n, 1)) {
			t.Fatalf("%d bytes: the disk hangs on what was handed in: %s", n, short(got))
		}
		copy(memory, patterned(n, 1))
		var answers []string
		ask := func(d *disk.Disk) {
			answers = append(answers, d.Read(1), d.Platter(1), d.Read(2), d.Platter(2))
		}
		ask(d)
		ask(d.Copy())
		ok(t, d.Write(2, s))
		ok(t, d.Write(3, s))
		ask(d)
		c := d.Copy()
		c.Crash([]bool{true}, api.Sector)
		ask(c)
		ok(t, d.Sync())
		ask(d)
		ask(d.Copy())
		for i, a := range answers {
			if within(a, s) {
				t.Fatalf("%d bytes: answer %d shares memory with what was written", n, i)
			}
			for _, b := range answers[:i] {
				if within(a, b) {
					t.Fatalf("%d bytes: answer %d shares memory with another one", n, i)
				}
			}
		}
		if string(memory) != patterned(n, 1) {
			t.Fatal("what was handed in is changed")
		}
	}
}

// TestUsedShares: R1: what is told is new memory, and may be written to.
func TestUsedShares(t *testing.T) {
	p := newPair()
	for _, at := range []int{5, 3, 9, 3, 5, 5} {
		ok(t, p.write(t, at, "a"))
	}
	for range 2 {
		a, b := p.d.Used(), p.d.Used()
		a = append(a[:cap(a)], 77)
		for i := range a {
			a[i] = -1
		}
		if !slices.Equal(b, []int{3, 5, 9}) {
			t.Fatal("two answers share memory")
		}
		p.holds(t, some()...)
		ok(t, p.sync(t))
	}
}

// TestKeepIsNotKept: R1: keep is not changed, also beyond its length, and not kept.
func TestKeepIsNotKept(t *testing.T) {
	p := newPair()
	for i := range 4 {
		ok(t, p.write(t, i, "abc"))
	}
	whole := []bool{true, false, true, true, true, true}
	keep := whole[:3]
	p.crash(keep, 2)
	if !slices.Equal(whole, []bool{true, false, true, true, true, true}) {
		t.Fatal("keep is changed")
	}
	p.holds(t, some()...)
	clear(whole)
	p.holds(t, some()...)
	if p.d.Platter(3) != zeros(api.Sector) || p.d.Platter(1) != bytesOf("ab") {
		t.Fatal("keep is read beyond its length")
	}
}
