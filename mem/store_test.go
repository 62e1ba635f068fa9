package mem

import (
	"bytes"
	"math"
	"math/rand"
	"slices"
	"testing"

	"carrel/api"
	"carrel/disk"
	"carrel/snap"
)

func mustFormat(t *testing.T) (*snap.Store, *disk.Disk) {
	t.Helper()
	d := disk.New(600)
	s, e := snap.Format(d)
	if e != api.OK {
		t.Fatal("Format answers", e)
	}
	return s, d
}

func mustOver(t *testing.T, s *snap.Store) *Mem {
	t.Helper()
	m, e := Over(s)
	if m == nil || e != api.OK {
		t.Fatal("Over answers", m, e)
	}
	return m
}

func must(t *testing.T, what string, got api.Errno) {
	t.Helper()
	if got != api.OK {
		t.Fatal(what, "answers", got)
	}
}

// put writes a page of that byte to the store itself.
func put(t *testing.T, s *snap.Store, n int, one byte) {
	t.Helper()
	must(t, "Write", s.Write(n, bytes.Repeat([]byte{one}, 64)))
}

// pagesOf are a store's pages as they are now.
func pagesOf(t *testing.T, s *snap.Store) []byte {
	t.Helper()
	all := []byte{}
	for n := range 128 {
		b, e := s.Read(n)
		must(t, "Read", e)
		all = append(all, b...)
	}
	return all
}

func mustHave(t *testing.T, s *snap.Store, want []byte) {
	t.Helper()
	got := pagesOf(t, s)
	for n := range 128 {
		if a, b := got[n*64:n*64+64], want[n*64:n*64+64]; !bytes.Equal(a, b) {
			t.Fatal("the store's page", n, "is", a, "want", b)
		}
	}
}

// stored is a store in which each page is another one, and a checkpoint of it.
func stored(t *testing.T) (*snap.Store, *disk.Disk, []byte) {
	t.Helper()
	s, d := mustFormat(t)
	all := filled(8192)
	for n := range 128 {
		must(t, "Write", s.Write(n, all[n*64:n*64+64]))
	}
	must(t, "Commit", s.Commit())
	return s, d, all
}

// downed is a store that has gone down, by Commit or by Undo.
func downed(t *testing.T, call func(s *snap.Store) api.Errno) (*snap.Store, *disk.Disk) {
	t.Helper()
	s, d, _ := stored(t)
	d.Arm(0)
	if e := call(s); e != api.ErrDown || !s.Down() {
		t.Fatal("it answers", e, s.Down())
	}
	return s, d
}

var calls = []func(s *snap.Store) api.Errno{
	func(s *snap.Store) api.Errno { return s.Commit() },
	func(s *snap.Store) api.Errno { return s.Undo(1) },
}

func TestOver(t *testing.T) { // P9.1
	s, d, all := stored(t)
	mustBe(t, mustOver(t, s), all)
	mustBeDirty(t, mustOver(t, s))
	put(t, s, 7, 5) // not on the disk, yet a page of the store
	mustBe(t, mustOver(t, s), laid(all, 448, bytes.Repeat([]byte{5}, 64)))
	opened, e := snap.Open(d)
	must(t, "Open", e)
	mustBe(t, mustOver(t, opened), all)
	fresh, _ := mustFormat(t)
	mustBe(t, mustOver(t, fresh), make([]byte, 8192))
}

func TestOverNothing(t *testing.T) { // P9.1: ErrNone, ErrDown
	for _, s := range []*snap.Store{nil, {}} {
		if m, e := Over(s); m != nil || e != api.ErrNone {
			t.Fatal("Over answers", m, e)
		}
	}
	for _, call := range calls {
		s, d := downed(t, call)
		for range 2 {
			if m, e := Over(s); m != nil || e != api.ErrDown {
				t.Fatal("Over answers", m, e)
			}
			d.Restart(api.Fate{Torn: -1}) // the store stays down
		}
	}
}

func TestAllIsAlikeOverAStore(t *testing.T) { // P9.2 to P9.5, P9.7: each call, as of a memory without a store
	s, _, all := stored(t)
	m, flat := mustOver(t, s), Flat(all)
	for i, a := range places() {
		n := int64(i)*0x123456789ABCDEF - 5
		mustThrow(t, "PutCell", a, m.PutCell(a, n), flat.PutCell(a, n))
		mustThrow(t, "PutByte", a-3, m.PutByte(a-3, n), flat.PutByte(a-3, n))
		if i%5 == 0 {
			m.Set(int(a), n+1)
			flat.Set(int(a), n+1)
		}
		if i%50 == 0 {
			m.Lay(int(a), filled(i%300))
			flat.Lay(int(a), filled(i%300))
		}
		mustTellAlike(t, m, flat, a-8)
	}
	mustBe(t, m, flat.Bytes())
	mustHave(t, s, all)
}

func mustTellAlike(t *testing.T, m, flat *Mem, a int64) {
	t.Helper()
	got, thrown := m.Byte(a)
	want, wantThrow := flat.Byte(a)
	if got != want || thrown != wantThrow {
		t.Fatal("Byte at", a, "answers", got, thrown, "want", want, wantThrow)
	}
	got, thrown = m.Cell(a)
	want, wantThrow = flat.Cell(a)
	if got != want || thrown != wantThrow {
		t.Fatal("Cell at", a, "answers", got, thrown, "want", want, wantThrow)
	}
	if m.Get(int(a)) != flat.Get(int(a)) || !bytes.Equal(m.Load(int(a), 70), flat.Load(int(a), 70)) {
		t.Fatal("Get or Load at", a, "tell something else")
	}
}

func TestSync(t *testing.T) { // P9.6
	s, d, all := stored(t)
	m := mustOver(t, s)
	m.PutCell(800, -5)
	m.Lay(60, []byte{1, 2, 3, 4, 5, 6, 7, 8})
	m.Set(8190, 0x0909)
	mustHave(t, s, all)
	mustBeDirty(t, m, 0, 1, 12, 127)
	must(t, "Sync", m.Sync())
	all = laid(laid(laid(all, 800, cellBytes(-5)), 60, []byte{1, 2, 3, 4, 5, 6, 7, 8}), 8190, []byte{9, 9})
	mustHave(t, s, all)
	mustBe(t, m, all)
	mustBeDirty(t, m)
	acts := d.Acts()
	must(t, "Sync", m.Sync())
	if d.Acts() != acts {
		t.Fatal("Sync did acts of the disk")
	}
	must(t, "Commit", s.Commit())
	opened, e := snap.Open(d)
	must(t, "Open", e)
	mustBe(t, mustOver(t, opened), all)
	mustBe(t, m, all)
}

func TestSyncOfEachPage(t *testing.T) { // P9.6: that one, and no other
	for n := range 128 {
		s, _, all := stored(t)
		m := mustOver(t, s)
		m.Lay(n*64+n%64, []byte{255})
		mustBeDirty(t, m, n)
		must(t, "Sync", m.Sync())
		mustHave(t, s, laid(all, n*64+n%64, []byte{255}))
		mustBeDirty(t, m)
	}
}

func TestSyncOfWhatWasChangedAgain(t *testing.T) { // P9.6: what is now counts, also where it is what it was
	s, _, all := stored(t)
	m := mustOver(t, s)
	for _, n := range []int64{5, 6, cellAt(all, 800), 5} {
		mustThrow(t, "PutCell", 800, m.PutCell(800, n), 0)
		must(t, "Sync", m.Sync())
		mustHave(t, s, laid(all, 800, cellBytes(n)))
		mustBeDirty(t, m)
	}
}

func TestSyncLeavesWhatWasNotChanged(t *testing.T) { // P9.6: pages that were read alone, and where just what stands there was stored
	s, _, all := stored(t)
	m := mustOver(t, s)
	mustBe(t, m, all)
	m.PutCell(800, cellAt(all, 800))
	m.Lay(640, all[640:900])
	m.PutCell(1024, 5)
	for _, n := range []int{3, 10, 12, 127} {
		put(t, s, n, 99)
		all = laid(all, n*64, bytes.Repeat([]byte{99}, 64))
	}
	must(t, "Sync", m.Sync())
	mustHave(t, s, laid(all, 1024, cellBytes(5)))
	mustBeDirty(t, m, 3, 10, 12, 127)
}

func TestSyncWhenTheStoreWentBack(t *testing.T) { // P9.6: what was changed since it was read is written again
	s, _, all := stored(t)
	m := mustOver(t, s)
	m.PutCell(800, 5)
	must(t, "Sync", m.Sync())
	s.Abort()
	mustHave(t, s, all)
	mustBeDirty(t, m, 12)
	must(t, "Sync", m.Sync())
	mustHave(t, s, laid(all, 800, cellBytes(5)))
	mustBeDirty(t, m)
}

func TestRenew(t *testing.T) { // P9.6
	s, _, all := stored(t)
	m := mustOver(t, s)
	m.PutCell(800, 5)
	m.Lay(6000, filled(2000))
	must(t, "Renew", m.Renew())
	mustBeDirty(t, m)
	mustBe(t, m, all)
	put(t, s, 50, 9) // it was read already
	mustBe(t, m, all)
	must(t, "Sync", m.Sync()) // nothing is changed any more
	all = laid(all, 3200, bytes.Repeat([]byte{9}, 64))
	mustHave(t, s, all)
	must(t, "Renew", m.Renew())
	mustBe(t, m, all)
	m.PutCell(800, 6)
	must(t, "Sync", m.Sync())
	must(t, "Renew", m.Renew())
	mustBe(t, m, laid(all, 800, cellBytes(6)))
	must(t, "Undo", s.Undo(1))
	must(t, "Renew", m.Renew())
	mustBe(t, m, make([]byte, 8192))
	must(t, "Sync", m.Sync())
	mustHave(t, s, make([]byte, 8192))
}

func TestDirtyOverAStore(t *testing.T) { // P9.6: as to the store's pages as they are now
	s, _, all := stored(t)
	m := mustOver(t, s)
	m.Lay(8000, []byte{0})
	m.Lay(0, []byte{0})
	mustBeDirty(t, m, 0, 125)
	m.Lay(8000, all[8000:8001]) // as it was
	mustBeDirty(t, m, 0)
	put(t, s, 0, 7)
	mustBeDirty(t, m, 0)
	m.Lay(0, bytes.Repeat([]byte{7}, 64))
	mustBeDirty(t, m)
	put(t, s, 60, 7) // it was never read
	mustBeDirty(t, m)
	m.Bytes()
	put(t, s, 60, 8)
	put(t, s, 90, 8)
	mustBeDirty(t, m, 60, 90)
	s.Abort()
	mustBeDirty(t, m, 0, 60)
}

// asking are calls that ask for page 12, or not.
var asking = []struct {
	name string
	asks bool
	do   func(m *Mem)
}{
	{"nothing", false, func(m *Mem) {}},
	{"Byte", true, func(m *Mem) { m.Byte(831) }},
	{"Byte of another page", false, func(m *Mem) { m.Byte(832) }},
	{"Cell", true, func(m *Mem) { m.Cell(768) }},
	{"Cell that throws", false, func(m *Mem) { m.Cell(769) }},
	{"PutByte", true, func(m *Mem) { m.PutByte(768, 1) }},
	{"PutByte that throws", false, func(m *Mem) { m.PutByte(767, 1) }},
	{"PutCell", true, func(m *Mem) { m.PutCell(824, 1) }},
	{"PutCell that throws", false, func(m *Mem) { m.PutCell(825, 1) }},
	{"Get", true, func(m *Mem) { m.Get(761) }},
	{"Get ahead", false, func(m *Mem) { m.Get(760) }},
	{"Set", true, func(m *Mem) { m.Set(831, 0) }},
	{"Load", true, func(m *Mem) { m.Load(0, 769) }},
	{"Load ahead", false, func(m *Mem) { m.Load(0, 768) }},
	{"Load of nothing", false, func(m *Mem) { m.Load(800, 0) }},
	{"Lay of nothing", false, func(m *Mem) { m.Lay(800, nil) }},
	{"Bytes", true, func(m *Mem) { m.Bytes() }},
	{"Sync", false, func(m *Mem) { m.Sync() }},
	{"Renew", false, func(m *Mem) { m.Renew() }},
	{"Bytes and Renew", false, func(m *Mem) { m.Bytes(); m.Renew() }},
	{"Dirty", false, func(m *Mem) { m.Dirty() }},
}

func TestPagesAreReadWhenTheyAreFirstAskedFor(t *testing.T) { // the chapter's ways, P9.6
	for _, c := range asking {
		s, _, all := stored(t)
		m := mustOver(t, s)
		c.do(m)
		now := bytes.Clone(all)
		if c.asks {
			now = m.Load(768, 64)
		}
		put(t, s, 12, 200)
		got := m.Load(768, 64)
		if c.asks && !bytes.Equal(got, now) || !c.asks && !bytes.Equal(got, bytes.Repeat([]byte{200}, 64)) {
			t.Fatal(c.name, "and the page is", got)
		}
	}
}

func TestStoreThatGoesDown(t *testing.T) { // P9.6, P1, P4: what was asked for stays, and calls end
	for _, call := range calls {
		s, d, all := stored(t)
		m := mustOver(t, s)
		mustBe(t, m, all)
		m.PutCell(800, 5)
		all = laid(all, 800, cellBytes(5))
		d.Arm(0)
		if e := call(s); e != api.ErrDown {
			t.Fatal("it answers", e)
		}
		for range 2 {
			if e := m.Sync(); e != api.ErrDown {
				t.Fatal("Sync answers", e)
			}
			if e := m.Renew(); e != api.ErrDown {
				t.Fatal("Renew answers", e)
			}
			mustBe(t, m, all)
			m.PutCell(4000, 6)
			all = laid(all, 4000, cellBytes(6))
			mustBe(t, m, all)
			m.Dirty()
			d.Restart(api.Fate{Torn: -1})
		}
	}
}

func TestStoreThatIsDownAheadOfTheFirstReading(t *testing.T) { // P1: calls end, and what is stored is read again
	s, d, _ := stored(t)
	m := mustOver(t, s)
	d.Arm(0)
	s.Commit()
	mustBe(t, m, make([]byte, 8192))
	m.Lay(8100, filled(200))
	m.PutCell(800, 5)
	mustBe(t, m, laid(laid(make([]byte, 8192), 8100, filled(200)), 800, cellBytes(5)))
	if e := m.Sync(); e != api.ErrDown {
		t.Fatal("Sync answers", e)
	}
	m.Dirty()
}

func TestTwoMemoriesOverOneStore(t *testing.T) { // P3: each hangs on itself and the store alone
	s, _, all := stored(t)
	a, b := mustOver(t, s), mustOver(t, s)
	a.PutCell(800, 5)
	b.PutCell(2000, 6)
	mustBe(t, a, laid(all, 800, cellBytes(5)))
	mustBe(t, b, laid(all, 2000, cellBytes(6)))
	must(t, "Sync", a.Sync())
	must(t, "Sync", b.Sync())
	mustBe(t, a, laid(all, 800, cellBytes(5)))
	mustBe(t, b, laid(all, 2000, cellBytes(6)))
	both := laid(laid(all, 800, cellBytes(5)), 2000, cellBytes(6))
	mustHave(t, s, both)
	must(t, "Renew", a.Renew())
	must(t, "Renew", b.Renew())
	mustBe(t, a, both)
	mustBe(t, b, both)
	other, _, fresh := stored(t)
	mustBe(t, mustOver(t, other), fresh)
}

// model is a memory over a store by the chapter's words: pages as they were read and as they are now.
type model struct {
	now     []byte
	asked   [128]bool
	changed [128]bool
	store   []byte
	saved   [][]byte
}

// ask reads the pages of n bytes from a on.
func (w *model) ask(a, n int) {
	for at := max(a, 0); at < min(a+n, 8192); at++ {
		if p := at / 64; !w.asked[p] {
			copy(w.now[p*64:p*64+64], w.store[p*64:])
			w.asked[p] = true
		}
	}
}

func (w *model) lay(a int, b []byte) {
	w.ask(a, len(b))
	for i, one := range b {
		if at := a + i; at >= 0 && at < 8192 && w.now[at] != one {
			w.now[at] = one
			w.changed[at/64] = true
		}
	}
}

func (w *model) dirty() []int {
	l := []int{}
	for p := range 128 {
		if w.asked[p] && !bytes.Equal(w.now[p*64:p*64+64], w.store[p*64:p*64+64]) {
			l = append(l, p)
		}
	}
	return l
}

func (w *model) sync() {
	for p := range 128 {
		if w.changed[p] {
			copy(w.store[p*64:p*64+64], w.now[p*64:])
		}
	}
}

func (w *model) renew() { w.asked, w.changed = [128]bool{}, [128]bool{} }

// step does one call of the memory, and the same to the model.
func (w *model) step(t *testing.T, m *Mem, r *rand.Rand) {
	t.Helper()
	a, n := r.Intn(8192+40)-20, r.Intn(10)*r.Intn(40)
	switch r.Intn(7) {
	case 0:
		b := make([]byte, n)
		r.Read(b)
		m.Lay(a, b)
		w.lay(a, b)
	case 1:
		m.Set(a, int64(n))
		w.lay(a, cellBytes(int64(n)))
	case 2:
		if m.PutByte(int64(a), int64(n)) == 0 {
			w.lay(a, []byte{byte(n)})
		}
	case 3:
		a &^= 7
		if m.PutCell(int64(a), math.MinInt64+int64(n)) == 0 {
			w.lay(a, cellBytes(math.MinInt64+int64(n)))
		}
	case 4:
		got, _ := m.Byte(int64(a))
		w.ask(a, 1)
		if got != int64(loaded(w.now, a, 1)[0]) {
			t.Fatal("Byte at", a, "is", got)
		}
	default:
		got := m.Load(a, n)
		w.ask(a, n)
		if !bytes.Equal(got, loaded(w.now, a, n)) {
			t.Fatal("Load of", n, "from", a, "is", got)
		}
	}
}

// turn does something to the store, or between it and the memory.
func (w *model) turn(t *testing.T, m *Mem, s *snap.Store, r *rand.Rand) {
	t.Helper()
	switch r.Intn(8) {
	case 0:
		must(t, "Renew", m.Renew())
		w.renew()
	case 1:
		s.Abort()
		w.store = bytes.Clone(w.saved[len(w.saved)-1])
	case 2:
		must(t, "Commit", s.Commit())
		w.saved = append(w.saved, bytes.Clone(w.store))
		w.saved = w.saved[max(len(w.saved)-4, 0):]
	case 3:
		if n := 1 + r.Intn(3); n < len(w.saved) {
			must(t, "Undo", s.Undo(n))
			w.saved = w.saved[:len(w.saved)-n]
			w.store = bytes.Clone(w.saved[len(w.saved)-1])
		}
	case 4:
		n, one := r.Intn(128), byte(r.Intn(3))
		put(t, s, n, one)
		w.store = laid(w.store, n*64, bytes.Repeat([]byte{one}, 64))
	default:
		must(t, "Sync", m.Sync())
		w.sync()
	}
}

func TestManyRuns(t *testing.T) { // P9.2 to P9.7
	for seed := range int64(60) {
		r := rand.New(rand.NewSource(seed))
		s, _ := mustFormat(t)
		m := mustOver(t, s)
		w := &model{now: make([]byte, 8192), store: make([]byte, 8192), saved: [][]byte{make([]byte, 8192)}}
		for range 150 {
			for range r.Intn(8) {
				w.step(t, m, r)
			}
			w.turn(t, m, s, r)
			if got := m.Dirty(); !slices.Equal(got, w.dirty()) {
				t.Fatal("Dirty answers", got, "want", w.dirty())
			}
			mustHave(t, s, w.store)
		}
		w.ask(0, 8192)
		mustBe(t, m, w.now)
	}
}
