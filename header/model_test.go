package header

import (
	"math/rand"
	"testing"

	"carrel/api"
	"carrel/mem"
)

// model is what the chapter's words say of headers: plain bytes, where the lowest of a cell is ahead. The numbers are the chapter's own.
type model []byte

func modelOf(m *mem.Mem) model { return model(m.Bytes()) }

func (w model) get(a int64) int64 {
	n := uint64(0)
	for i := int64(7); i >= 0; i-- {
		n = n<<8 | uint64(w[a+i])
	}
	return int64(n)
}

func (w model) here() int64 {
	for a := int64(1536); a <= 5632; a++ {
		if w.get(0) == a {
			return a
		}
	}
	return 1536
}

func (w model) read(at int64) (h api.Header, is bool) {
	here, among := w.here(), false
	for a := int64(1536); a < here; a += 8 {
		among = among || a == at
	}
	if !among {
		return h, false
	}
	b := int64(w[at+8])
	h = api.Header{At: at, Link: w.get(at), Immediate: b/128 == 1, Hidden: b/64%2 == 1, Xt: at + 9 + b%32}
	for h.Xt%8 != 0 {
		h.Xt++
	}
	if b%32 == 0 || h.Xt+7 >= here {
		return api.Header{}, false
	}
	h.Name = string(w[at+9 : at+9+b%32])
	return h, true
}

func (w model) latest() int64 {
	if _, is := w.read(w.get(8)); is {
		return w.get(8)
	}
	return 0
}

func (w model) mark(at int64, immediate, hidden bool) bool {
	if _, is := w.read(at); !is {
		return false
	}
	b := w[at+8] % 64
	if immediate {
		b += 128
	}
	if hidden {
		b += 64
	}
	w[at+8] = b
	return true
}

// plain tells a header's bytes one behind the other.
func plain(h api.Header) (b []byte, thrown int) {
	if len(h.Name) == 0 {
		return nil, -16
	}
	if len(h.Name) >= 32 {
		return nil, -19
	}
	for i := range 8 {
		b = append(b, byte(h.Link>>(8*i)))
	}
	x := len(h.Name)
	if h.Immediate {
		x += 128
	}
	if h.Hidden {
		x += 64
	}
	b = append(append(b, byte(x)), h.Name...)
	for len(b)%8 != 0 {
		b = append(b, 0)
	}
	return b, 0
}

// pair is a memory beside its model.
type pair struct {
	t *testing.T
	m *mem.Mem
	w model
}

func pairOf(t *testing.T, m *mem.Mem) pair { return pair{t: t, m: m, w: modelOf(m)} }

// set stores a cell in both.
func (p pair) set(a int, n int64) {
	p.m.Set(a, n)
	copy(p.w[a:], mem.Flat(p.m.Load(a, 8)).Load(0, 8))
}

// put stores a byte in both.
func (p pair) put(a int64, n byte) {
	p.m.Lay(int(a), []byte{n})
	p.w[a] = n
}

// same fails where the memory isn't the model's, byte by byte.
func (p pair) same() {
	p.t.Helper()
	if string(p.m.Bytes()) != string(p.w) {
		p.t.Fatal("the memory isn't as it should be")
	}
}

func (p pair) read(at int64) bool {
	p.t.Helper()
	h, is := Read(p.m, at)
	want, should := p.w.read(at)
	if h != want || is != should {
		p.t.Fatalf("at %d, Here %d: %+v %v, wanted %+v %v", at, p.w.get(0), h, is, want, should)
	}
	return is
}

func (p pair) ends() {
	p.t.Helper()
	if h := Here(p.m); h != p.w.here() {
		p.t.Fatalf("Here %d of %d", h, p.w.get(0))
	}
	if l := Latest(p.m); l != p.w.latest() {
		p.t.Fatalf("Latest %d of %d", l, p.w.get(8))
	}
}

func (p pair) mark(at int64, immediate, hidden bool) bool {
	p.t.Helper()
	is := Mark(p.m, at, immediate, hidden)
	if should := p.w.mark(at, immediate, hidden); is != should {
		p.t.Fatalf("Mark at %d: %v", at, is)
	}
	p.same()
	return is
}

// filled is a memory in which no byte is as it happens to be.
func filled(r *rand.Rand) *mem.Mem {
	b := make([]byte, 8192)
	r.Read(b)
	return mem.Flat(b)
}

// someName has a name's length, and all bytes that there are.
func someName(r *rand.Rand, length int) string {
	b := make([]byte, length)
	r.Read(b)
	return string(b)
}
