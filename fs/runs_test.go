package fs

import (
	"bytes"
	"math/rand"
	"slices"
	"testing"

	"carrel/api"
	"carrel/disk"
	"carrel/mem"
	"carrel/snap"
)

func TestManyRuns(t *testing.T) { // P12.1 to P12.8: each call, and each byte behind it
	for seed := range int64(60) {
		r := rand.New(rand.NewSource(seed))
		p := formatted(t)
		for range 120 {
			p.step(r)
		}
	}
}

func (p *pair) step(r *rand.Rand) {
	p.t.Helper()
	name := func() string { return names[r.Intn(len(names))] }
	node := func() int { return r.Intn(10) - 1 }
	most := []int{10, 100, 300, 1500}[r.Intn(4)]
	switch r.Intn(12) {
	case 0, 1, 2:
		p.create(name())
	case 3:
		p.remove(name())
	case 4:
		p.rename(name(), name())
	case 5, 6:
		p.resize(node(), r.Intn(most)-1)
	case 7:
		p.read(node(), r.Intn(most)-1, r.Intn(most)-1)
	default:
		n := node()
		size, _ := Size(p.m, n)
		p.write(n, r.Intn(size+3)-1, text(r.Intn(most), r))
	}
}

// world is a map from names to bytes, and what each call does with it.
type world map[string][]byte

func TestMap(t *testing.T) { // P12.9
	for seed := range int64(200) {
		r := rand.New(rand.NewSource(seed))
		m := mem.Flat(filled())
		Format(m)
		w := world{}
		for range 100 {
			w.step(t, m, r)
			w.mustStand(t, m)
		}
	}
}

func (w world) mustStand(t *testing.T, m *mem.Mem) {
	t.Helper()
	l, e := Files(m)
	if e != api.OK || len(l) != len(w) {
		t.Fatal("Files answers", l, e, "of", len(w))
	}
	for _, f := range l {
		b, is := w[f.Name]
		if !is || !bytes.Equal(b, f.Data) {
			t.Fatal("Files answers for", f.Name, f.Data, "want", b, is)
		}
	}
}

// step does a call on both; what the memory has no room for isn't done to the map.
func (w world) step(t *testing.T, m *mem.Mem, r *rand.Rand) {
	t.Helper()
	a, b := names[r.Intn(9)], names[r.Intn(9)]
	was, isA := w[a]
	_, isB := w[b]
	node, e := Find(m, a)
	if (e == api.OK) != isA {
		t.Fatal("Find answers", node, e, "for", a)
	}
	n := r.Intn([]int{10, 100, 700}[r.Intn(3)])
	switch r.Intn(6) {
	case 0:
		if _, e := Create(m, a); (e == api.OK) != (!isA && len(w) < 8) {
			t.Fatal("Create answers", e, "for", a)
		} else if e == api.OK {
			w[a] = nil
		}
	case 1:
		if e := Delete(m, a); (e == api.OK) != isA {
			t.Fatal("Delete answers", e, "for", a)
		}
		delete(w, a)
	case 2:
		if e := Rename(m, a, b); (e == api.OK) != (isA && !isB) {
			t.Fatal("Rename answers", e, "for", a, b)
		} else if e == api.OK {
			delete(w, a)
			w[b] = was
		}
	default:
		if isA {
			w.change(t, m, a, node, n, r)
		}
	}
}

// change gives a file other bytes.
func (w world) change(t *testing.T, m *mem.Mem, name string, node, n int, r *rand.Rand) {
	t.Helper()
	was := w[name]
	if r.Intn(3) == 0 {
		if w.mustFit(t, name, n, Resize(m, node, n)) {
			w[name] = append(bytes.Clone(was[:min(n, len(was))]), make([]byte, max(n-len(was), 0))...)
		}
		return
	}
	at, b := r.Intn(len(was)+1), text(n, r)
	if w.mustFit(t, name, max(at+n, len(was)), Write(m, node, at, b)) {
		w[name] = slices.Concat(was[:at], b, was[min(at+n, len(was)):])
	}
	got, e := Read(m, node, at, n)
	if want := w[name][at:min(at+n, len(w[name]))]; e != api.OK || !bytes.Equal(got, want) {
		t.Fatal("Read answers", got, e, "want", want)
	}
}

// mustFit asks that a call has an error just where there is no room for that file with that size.
func (w world) mustFit(t *testing.T, name string, size int, e api.Errno) bool {
	t.Helper()
	many := (size + 63) / 64
	for other, b := range w {
		if other != name {
			many += (len(b) + 63) / 64
		}
	}
	want := api.OK
	if many > 23 {
		want = api.ErrFsFull
	}
	if e != want {
		t.Fatal("a size of", size, "for", name, "answers", e, "want", want)
	}
	return e == api.OK
}

func TestNewMemory(t *testing.T) { // P2
	p := apart(t)
	l, _ := Files(p.m)
	again, _ := Files(p.m)
	b, _ := Read(p.m, 1, 10, 100)
	for _, f := range l {
		clear(f.Data)
		if len(f.Data) > 0 {
			_ = append(f.Data, 77)
		}
	}
	clear(b)
	for i, f := range again {
		if want := p.w.data(p.w.files[[]int{0, 1, 3}[i]]); !bytes.Equal(f.Data, want) {
			t.Fatal("memory is shared:", f.Data, want)
		}
	}
	p.mustStand("a change of answers")
	given := []byte("abcdef")
	p.write(3, 0, given[:3])
	clear(given)
	p.mustStand("a change of what was given")
}

func TestNothingIsHandedOutBehind(t *testing.T) { // P2: what lies behind an answer's length
	p := apart(t)
	l, _ := Files(p.m)
	for _, f := range l {
		mustEndIn(t, f.Data)
	}
	for n := range 150 {
		b, _ := Read(p.m, 1, 5, n)
		mustEndIn(t, b)
	}
}

// mustEndIn asks that what lies behind a list's length is noughts.
func mustEndIn(t *testing.T, b []byte) {
	t.Helper()
	for _, one := range b[len(b):cap(b)] {
		if one != 0 {
			t.Fatal("behind", b, "lies", b[:cap(b)])
		}
	}
}

func TestWhatLiesBehindIsNotWritten(t *testing.T) { // P2
	p := apart(t)
	b := []byte("abcdefgh")
	p.must(p.write(3, 0, b[:3]), api.OK)
	if got, _ := Read(p.m, 3, 0, 9); string(got) != "abc" || string(b) != "abcdefgh" {
		t.Fatal(got, b)
	}
}

func TestOverAStore(t *testing.T) { // P12.1 to P12.8 over pages of a disk: just those that a call changes are changed
	d := disk.New(600)
	s, _ := snap.Format(d)
	m, e := mem.Over(s)
	if e != api.OK {
		t.Fatal(e)
	}
	p := &pair{t, m, newModel(make([]byte, 8192))}
	do := func(what string, call func(), want ...int) {
		t.Helper()
		call()
		if got := m.Dirty(); !slices.Equal(got, want) {
			t.Fatal(what, "and Dirty answers", got, "want", want)
		}
		if e := m.Sync(); e != api.OK {
			t.Fatal(e)
		}
		if e := s.Commit(); e != api.OK {
			t.Fatal(e)
		}
	}
	do("Format", func() { Format(m) }, 96)
	do("Check", func() { p.mustStand("Format") })
	do("Create", func() { p.create("a") }, 97)
	do("Create", func() { p.create("b") }, 98)
	do("Resize", func() { p.resize(1, 70) }, 96, 98)
	do("Write", func() { p.write(1, 60, []byte("123456789")) }, 105, 106)
	do("Write", func() { p.write(1, 64, []byte("6789")) }, 106)
	do("Write", func() { p.write(0, 0, []byte("a")) }, 96, 97, 107)
	do("Read", func() { p.read(1, 0, 70) })
	do("Rename", func() { p.rename("b", "c") }, 98)
	do("Resize", func() { p.resize(1, 64) }, 96, 98)
	do("errors", func() { p.write(0, 0, make([]byte, 2000)); p.create("c"); p.remove("b"); p.rename("a", "c") })
	do("Delete", func() { p.remove("c") }, 96, 98)
	s, e = snap.Open(d)
	if e != api.OK {
		t.Fatal(e)
	}
	if p.m, e = mem.Over(s); e != api.OK {
		t.Fatal(e)
	}
	p.mustStand("Open")
	p.must(p.write(0, 1, []byte("b")), api.OK)
}

func TestOverAStoreThatIsDown(t *testing.T) { // P1, P4
	d := disk.New(600)
	s, _ := snap.Format(d)
	m, _ := mem.Over(s)
	Format(m)
	m.Sync()
	s.Commit()
	fresh, _ := mem.Over(s)
	d.Arm(0)
	s.Commit()
	mustAllBeErrFs(t, fresh)
	if e := Check(m); e != api.OK {
		t.Fatal(e)
	}
	Create(m, "a")
	Write(m, 0, 0, []byte("abc"))
	if l, e := Files(m); e != api.OK || len(l) != 1 || string(l[0].Data) != "abc" {
		t.Fatal(l, e)
	}
}

func TestAnswersHangOnTheMemoryAlone(t *testing.T) { // P3
	p := apart(t)
	other := &pair{t, mem.Flat(p.m.Bytes()), p.w}
	other.mustStand("Flat")
	want, _ := Files(p.m)
	for range 20 {
		got, _ := Files(p.m)
		if !slices.EqualFunc(got, want, func(a, b api.File) bool { return a.Name == b.Name && bytes.Equal(a.Data, b.Data) }) {
			t.Fatal(got, want)
		}
	}
}
