package fs

import (
	"bytes"
	"math/rand"
	"testing"

	"carrel/api"
	"carrel/mem"
)

// model is a memory by the chapter's words, byte by byte; each file's blocks are a list.
type model struct {
	all   []byte
	files [8]*file
}

type file struct {
	name   string
	size   int
	blocks []int
}

// blockAt is where a block stands.
func blockAt(n int) int { return 6144 + 64*n }

// newModel is what Format makes of these bytes.
func newModel(all []byte) *model {
	w := &model{all: bytes.Clone(all)}
	clear(w.all[blockAt(0):blockAt(9)])
	w.lay()
	return w
}

// lay puts block 0 and the inodes into the bytes.
func (w *model) lay() {
	clear(w.all[blockAt(0):blockAt(9)])
	copy(w.all[blockAt(0):], []byte{0x46, 0x53, 0x59, 0x53})
	for n, f := range w.files {
		if f == nil {
			continue
		}
		b := w.all[blockAt(1+n):blockAt(2+n)]
		b[0] = byte(len(f.name))
		copy(b[1:16], f.name)
		b[16], b[17] = byte(f.size%256), byte(f.size/256)
		at := 16
		for i, block := range f.blocks {
			w.all[blockAt(0)+4+block/8] |= 1 << (block % 8)
			if i > 0 && f.blocks[i-1]+1 == block {
				b[at+1]++
				continue
			}
			at += 2
			b[at], b[at+1] = byte(block), 1
		}
	}
}

func (w *model) isTaken(block int) bool {
	for _, f := range w.files {
		if f == nil {
			continue
		}
		for _, one := range f.blocks {
			if one == block {
				return true
			}
		}
	}
	return false
}

func (w *model) free() []int {
	l := []int{}
	for n := 9; n < 32; n++ {
		if !w.isTaken(n) {
			l = append(l, n)
		}
	}
	return l
}

// at is where the i-th byte of a file stands.
func (w *model) at(f *file, i int) int { return blockAt(f.blocks[i/64]) + i%64 }

func (w *model) data(f *file) []byte {
	b := []byte{}
	for i := range f.size {
		b = append(b, w.all[w.at(f, i)])
	}
	return b
}

func isName(s string) bool {
	for i := range len(s) {
		if s[i] < 33 || s[i] > 126 {
			return false
		}
	}
	return len(s) >= 1 && len(s) <= 15
}

func (w *model) find(name string) (int, api.Errno) {
	if !isName(name) {
		return 0, api.ErrName
	}
	for n, f := range w.files {
		if f != nil && f.name == name {
			return n, api.OK
		}
	}
	return 0, api.ErrMissing
}

func (w *model) node(n int) (*file, api.Errno) {
	if n < 0 || n > 7 {
		return nil, api.ErrRange
	}
	if w.files[n] == nil {
		return nil, api.ErrMissing
	}
	return w.files[n], api.OK
}

func (w *model) create(name string) (int, api.Errno) {
	if _, e := w.find(name); e == api.ErrName {
		return 0, e
	} else if e == api.OK {
		return 0, api.ErrExists
	}
	for n, f := range w.files {
		if f == nil {
			w.files[n] = &file{name: name}
			w.lay()
			return n, api.OK
		}
	}
	return 0, api.ErrInodes
}

func (w *model) remove(name string) api.Errno {
	n, e := w.find(name)
	if e == api.OK {
		w.files[n] = nil
		w.lay()
	}
	return e
}

func (w *model) rename(from, to string) api.Errno {
	if !isName(from) || !isName(to) {
		return api.ErrName
	}
	n, e := w.find(from)
	if e != api.OK {
		return e
	}
	if _, e := w.find(to); e == api.OK {
		return api.ErrExists
	}
	w.files[n].name = to
	w.lay()
	return api.OK
}

func (w *model) resize(node, size int) api.Errno {
	f, e := w.node(node)
	if e != api.OK {
		return e
	}
	if size < 0 {
		return api.ErrRange
	}
	if size > 1472 {
		return api.ErrFsFull
	}
	need := (size + 63) / 64
	if free := w.free(); need > len(f.blocks)+len(free) {
		return api.ErrFsFull
	}
	for len(f.blocks) > need {
		f.blocks = f.blocks[:len(f.blocks)-1]
	}
	for len(f.blocks) < need {
		block := w.free()[0]
		clear(w.all[blockAt(block):blockAt(block+1)])
		f.blocks = append(f.blocks, block)
	}
	for i := size; i < need*64; i++ {
		w.all[w.at(f, i)] = 0
	}
	f.size = size
	w.lay()
	return api.OK
}

func (w *model) read(node, at, n int) ([]byte, api.Errno) {
	f, e := w.node(node)
	if e != api.OK {
		return nil, e
	}
	if at < 0 || n < 0 {
		return nil, api.ErrRange
	}
	b := []byte{}
	for i := at; i < f.size && len(b) < n; i++ {
		b = append(b, w.all[w.at(f, i)])
	}
	return b, api.OK
}

func (w *model) write(node, at int, b []byte) api.Errno {
	f, e := w.node(node)
	if e != api.OK {
		return e
	}
	if at < 0 || at > f.size {
		return api.ErrRange
	}
	if at+len(b) > f.size {
		if e := w.resize(node, at+len(b)); e != api.OK {
			return e
		}
	}
	for i, one := range b {
		w.all[w.at(f, at+i)] = one
	}
	return api.OK
}

// pair is a memory and what it should be.
type pair struct {
	t *testing.T
	m *mem.Mem
	w *model
}

// filled is a memory's bytes, none of which is 0.
func filled() []byte {
	all := make([]byte, 8192)
	for i := range all {
		all[i] = byte(1 + (i*7+i/256)%255)
	}
	return all
}

// formatted is a pair without files: of bytes that aren't noughts, so that what comes in place of them is seen.
func formatted(t *testing.T) *pair {
	t.Helper()
	m := mem.Flat(filled())
	Format(m)
	return &pair{t, m, newModel(filled())}
}

// mustStand holds the whole memory, Files, Find and Size against the model.
func (p *pair) mustStand(what ...any) {
	p.t.Helper()
	got := p.m.Bytes()
	for i := range got {
		if got[i] != p.w.all[i] {
			p.t.Fatal(what, "and byte", i-6144, "of the region is", got[i], "want", p.w.all[i])
		}
	}
	if e := Check(p.m); e != api.OK {
		p.t.Fatal(what, "and Check answers", e)
	}
	l, e := Files(p.m)
	if e != api.OK {
		p.t.Fatal(what, "and Files answers", e)
	}
	for n, f := range p.w.files {
		size, e := Size(p.m, n)
		if f == nil {
			p.mustTell(n, "Size", e, api.ErrMissing, size, 0)
			continue
		}
		p.mustTell(n, "Size", e, api.OK, size, f.size)
		at, e := Find(p.m, f.name)
		p.mustTell(f.name, "Find", e, api.OK, at, n)
		if len(l) == 0 || l[0].Name != f.name || !bytes.Equal(l[0].Data, p.w.data(f)) {
			p.t.Fatal(what, "and Files answers", l, "for", f.name)
		}
		l = l[1:]
	}
	if len(l) > 0 {
		p.t.Fatal(what, "and Files answers", l, "more")
	}
}

func (p *pair) mustTell(of any, call string, e, wantErr api.Errno, got, want int) {
	p.t.Helper()
	if e != wantErr || got != want {
		p.t.Fatal(call, "of", of, "answers", got, e, "want", want, wantErr)
	}
}

// Each of these does a call on both, and holds the answers and the memory against each other.

func (p *pair) create(name string) api.Errno {
	p.t.Helper()
	n, e := Create(p.m, name)
	want, wantErr := p.w.create(name)
	p.mustTell(name, "Create", e, wantErr, n, want)
	p.mustStand("Create", name)
	return e
}

func (p *pair) remove(name string) api.Errno {
	p.t.Helper()
	e := Delete(p.m, name)
	p.mustTell(name, "Delete", e, p.w.remove(name), 0, 0)
	p.mustStand("Delete", name)
	return e
}

func (p *pair) rename(from, to string) api.Errno {
	p.t.Helper()
	e := Rename(p.m, from, to)
	p.mustTell(from+" "+to, "Rename", e, p.w.rename(from, to), 0, 0)
	p.mustStand("Rename", from, to)
	return e
}

func (p *pair) resize(node, size int) api.Errno {
	p.t.Helper()
	e := Resize(p.m, node, size)
	p.mustTell([]int{node, size}, "Resize", e, p.w.resize(node, size), 0, 0)
	p.mustStand("Resize", node, size)
	return e
}

func (p *pair) read(node, at, n int) api.Errno {
	p.t.Helper()
	b, e := Read(p.m, node, at, n)
	want, wantErr := p.w.read(node, at, n)
	if e != wantErr || !bytes.Equal(b, want) {
		p.t.Fatal("Read of", node, at, n, "answers", b, e, "want", want, wantErr)
	}
	return e
}

func (p *pair) write(node, at int, b []byte) api.Errno {
	p.t.Helper()
	given := bytes.Clone(b)
	e := Write(p.m, node, at, b)
	p.mustTell([]int{node, at, len(b)}, "Write", e, p.w.write(node, at, b), 0, 0)
	if !bytes.Equal(b, given) {
		p.t.Fatal("Write changed what it was given")
	}
	p.mustStand("Write", node, at, len(b))
	return e
}

// find holds Find alone against the model.
func (p *pair) find(name string) api.Errno {
	p.t.Helper()
	n, e := Find(p.m, name)
	want, wantErr := p.w.find(name)
	p.mustTell(name, "Find", e, wantErr, n, want)
	return e
}

// must asks for an error of a call that was already held against the model.
func (p *pair) must(got, want api.Errno) {
	p.t.Helper()
	if got != want {
		p.t.Fatal("it answers", got, "want", want)
	}
}

// text is n bytes, none of which is 0.
func text(n int, r *rand.Rand) []byte {
	b := make([]byte, n)
	for i := range b {
		b[i] = byte(1 + r.Intn(255))
	}
	return b
}
