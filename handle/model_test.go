package handle

import (
	"bytes"
	"math"
	"math/rand"
	"testing"

	"carrel/api"
	"carrel/fs"
	"carrel/mem"
)

// model is what the chapter's words say of handles: eight numbers, beside a memory of which just the files count.
type model struct {
	files *mem.Mem
	cells [4][2]int64
}

// modelOf is the model of a memory as it stands.
func modelOf(m *mem.Mem) *model {
	w := &model{files: mem.Flat(m.Bytes())}
	for i := range 4 {
		w.cells[i] = [2]int64{m.Get(64 + 16*i), m.Get(72 + 16*i)}
	}
	return w
}

// bytes is the whole memory as it should be.
func (w *model) bytes() []byte {
	m := mem.Flat(w.files.Bytes())
	for i, c := range w.cells {
		m.Set(64+16*i, c[0])
		m.Set(72+16*i, c[1])
	}
	return m.Bytes()
}

func (w *model) isOpen(h int) bool {
	if h < 1 || h > 4 || fs.Check(w.files) != api.OK {
		return false
	}
	for node := range 8 {
		if w.cells[h-1][0] == int64(node+1) {
			_, e := fs.Size(w.files, node)
			return e == api.OK
		}
	}
	return false
}

func (w *model) opened() (l []int) {
	for h := 1; h <= 4; h++ {
		if w.isOpen(h) {
			l = append(l, h)
		}
	}
	return l
}

// get tells an open handle's inode, place and size.
func (w *model) get(h int) (node, place, size int, e api.Errno) {
	if fs.Check(w.files) != api.OK {
		return 0, 0, 0, api.ErrFs
	}
	if !w.isOpen(h) {
		return 0, 0, 0, api.ErrHandle
	}
	node = int(w.cells[h-1][0]) - 1
	size, _ = fs.Size(w.files, node)
	place = size
	if p := w.cells[h-1][1]; p >= 0 && p < int64(size) {
		place = int(p)
	}
	return node, place, size, api.OK
}

func (w *model) open(name string) (int, api.Errno) {
	node, e := fs.Find(w.files, name)
	if e != api.OK {
		return 0, e
	}
	for h := 1; h <= 4; h++ {
		if !w.isOpen(h) {
			w.cells[h-1] = [2]int64{int64(node + 1), 0}
			return h, api.OK
		}
	}
	return 0, api.ErrHandles
}

func (w *model) create(name string) (int, api.Errno) {
	_, e := fs.Find(w.files, name)
	if e != api.OK && e != api.ErrMissing {
		return 0, e
	}
	if len(w.opened()) == 4 {
		return 0, api.ErrHandles
	}
	before := w.files.Bytes()
	if e == api.ErrMissing {
		if _, e := fs.Create(w.files, name); e != api.OK {
			return 0, e
		}
	}
	node, _ := fs.Find(w.files, name)
	fs.Resize(w.files, node, 0)
	h, e := w.open(name)
	if e != api.OK {
		w.files = mem.Flat(before)
	}
	return h, e
}

func (w *model) close(h int) api.Errno {
	_, _, _, e := w.get(h)
	if e == api.OK {
		w.cells[h-1] = [2]int64{}
	}
	return e
}

func (w *model) read(h, n int) ([]byte, api.Errno) {
	node, place, _, e := w.get(h)
	if e != api.OK {
		return nil, e
	}
	b, e := fs.Read(w.files, node, place, n)
	if e == api.OK {
		w.cells[h-1][1] = int64(place + len(b))
	}
	return b, e
}

func (w *model) write(h int, b []byte) api.Errno {
	node, place, _, e := w.get(h)
	if e != api.OK {
		return e
	}
	if e = fs.Write(w.files, node, place, b); e == api.OK {
		w.cells[h-1][1] = int64(place + len(b))
	}
	return e
}

func (w *model) resize(h, size int) api.Errno {
	node, _, _, e := w.get(h)
	if e != api.OK {
		return e
	}
	return fs.Resize(w.files, node, size)
}

func (w *model) seek(h, at int) api.Errno {
	_, _, size, e := w.get(h)
	if e == api.OK && (at < 0 || at > size) {
		e = api.ErrRange
	}
	if e == api.OK {
		w.cells[h-1][1] = int64(at)
	}
	return e
}

func (w *model) remove(name string) api.Errno {
	node, e := fs.Find(w.files, name)
	if e != api.OK {
		return e
	}
	for i := range w.cells {
		if w.isOpen(i+1) && w.cells[i][0] == int64(node+1) {
			w.cells[i] = [2]int64{}
		}
	}
	return fs.Delete(w.files, name)
}

// pair is a memory, and what it should be.
type pair struct {
	t *testing.T
	m *mem.Mem
	w *model
}

func pairOf(t *testing.T, m *mem.Mem) *pair {
	t.Helper()
	p := &pair{t: t, m: m, w: modelOf(m)}
	p.alike("at first")
	return p
}

// alike holds what changes nothing against the model, and every byte.
func (p *pair) alike(what string) {
	p.t.Helper()
	if got, want := p.m.Bytes(), p.w.bytes(); !bytes.Equal(got, want) {
		for i := range got {
			if got[i] != want[i] {
				p.t.Fatalf("%s: byte %d is %d, not %d", what, i, got[i], want[i])
			}
		}
	}
	if got, want := Opened(p.m), p.w.opened(); !sameInts(got, want) {
		p.t.Fatalf("%s: opened %v, not %v", what, got, want)
	}
	for _, h := range []int{math.MinInt, -1, 0, 1, 2, 3, 4, 5, 17, math.MaxInt} {
		_, place, size, want := p.w.get(h)
		if got, e := Size(p.m, h); got != size || e != want {
			p.t.Fatalf("%s: size of %d: %d %d, not %d %d", what, h, got, e, size, want)
		}
		if got, e := Place(p.m, h); got != place || e != want {
			p.t.Fatalf("%s: place of %d: %d %d, not %d %d", what, h, got, e, place, want)
		}
	}
	if !bytes.Equal(p.m.Bytes(), p.w.bytes()) {
		p.t.Fatalf("%s: a question changed the memory", what)
	}
}

func sameInts(a, b []int) bool {
	if len(a) != len(b) {
		return false
	}
	for i := range a {
		if a[i] != b[i] {
			return false
		}
	}
	return true
}

func (p *pair) number(what string, got int, e api.Errno, want int, wantE api.Errno) api.Errno {
	p.t.Helper()
	if got != want || e != wantE {
		p.t.Fatalf("%s: %d %d, not %d %d", what, got, e, want, wantE)
	}
	p.alike(what)
	return e
}

func (p *pair) create(name string) (int, api.Errno) {
	p.t.Helper()
	want, wantE := p.w.create(name)
	h, e := Create(p.m, name)
	return h, p.number("create "+name, h, e, want, wantE)
}

func (p *pair) open(name string) (int, api.Errno) {
	p.t.Helper()
	want, wantE := p.w.open(name)
	h, e := Open(p.m, name)
	return h, p.number("open "+name, h, e, want, wantE)
}

func (p *pair) close(h int) api.Errno {
	p.t.Helper()
	want := p.w.close(h)
	return p.number("close", 0, Close(p.m, h), 0, want)
}

func (p *pair) read(h, n int) ([]byte, api.Errno) {
	p.t.Helper()
	want, wantE := p.w.read(h, n)
	got, e := Read(p.m, h, n)
	if !bytes.Equal(got, want) {
		p.t.Fatalf("read: %q, not %q", got, want)
	}
	p.number("read", 0, e, 0, wantE)
	kept := bytes.Clone(got)
	for i := range got {
		got[i]++
	}
	p.alike("what was read, changed")
	return kept, e
}

func (p *pair) write(h int, b []byte) api.Errno {
	p.t.Helper()
	want := p.w.write(h, b)
	given := bytes.Clone(b)
	e := p.number("write", 0, Write(p.m, h, given), 0, want)
	if !bytes.Equal(given, b) {
		p.t.Fatal("write changed its bytes")
	}
	for i := range given {
		given[i]++
	}
	p.alike("what was written, changed")
	return e
}

func (p *pair) resize(h, size int) api.Errno {
	p.t.Helper()
	want := p.w.resize(h, size)
	return p.number("resize", 0, Resize(p.m, h, size), 0, want)
}

func (p *pair) seek(h, at int) api.Errno {
	p.t.Helper()
	want := p.w.seek(h, at)
	return p.number("seek", 0, Seek(p.m, h, at), 0, want)
}

func (p *pair) remove(name string) api.Errno {
	p.t.Helper()
	want := p.w.remove(name)
	return p.number("delete "+name, 0, Delete(p.m, name), 0, want)
}

// fresh is a memory of random bytes with a region without files, all handles closed.
func fresh(t *testing.T, r *rand.Rand) *pair {
	t.Helper()
	all := make([]byte, 8192)
	r.Read(all)
	clear(all[64:128])
	m := mem.Flat(all)
	fs.Format(m)
	return pairOf(t, m)
}

// cell sets one of the eight cells: of a handle, 0 its file, 1 its place.
func (p *pair) cell(h, which int, n int64) {
	p.t.Helper()
	p.m.Set(64+16*(h-1)+8*which, n)
	p.w.cells[h-1][which] = n
	p.alike("a cell set")
}

// below does something to the files by itself.
func (p *pair) below(do func(m *mem.Mem) api.Errno) {
	p.t.Helper()
	if e := do(p.m); e != api.OK {
		p.t.Fatal(e)
	}
	do(p.w.files)
	p.alike("the files changed")
}
