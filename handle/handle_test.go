package handle

import (
	"bytes"
	"math"
	"math/rand"
	"testing"

	"carrel/api"
	"carrel/disk"
	"carrel/fs"
	"carrel/mem"
	"carrel/snap"
)

// The chapter's example.
func TestExample(t *testing.T) {
	m := mem.Flat(nil)
	fs.Format(m)
	if h, e := Create(m, "a"); h != 1 || e != api.OK {
		t.Fatal(h, e)
	}
	if h, e := Open(m, "a"); h != 2 || e != api.OK {
		t.Fatal(h, e)
	}
	if e := Write(m, 1, []byte("xy")); e != api.OK {
		t.Fatal(e)
	}
	if b, e := Read(m, 2, 9); string(b) != "xy" || e != api.OK {
		t.Fatal(b, e)
	}
	if n, e := Place(m, 2); n != 2 || e != api.OK {
		t.Fatal(n, e)
	}
	if got := m.Get(64); got != 1 {
		t.Fatal(got)
	}
	if l := Opened(m); !sameInts(l, []int{1, 2}) {
		t.Fatal(l)
	}
}

// wants fails where an error isn't the one that should be.
func wants(t *testing.T, got, want api.Errno) {
	t.Helper()
	if got != want {
		t.Fatalf("error %d, not %d", got, want)
	}
}

// P13.1: a handle is open just if its first cell is from 1 to 8, and that inode is one.
func TestOpened(t *testing.T) {
	p := fresh(t, rand.New(rand.NewSource(1)))
	for i := range 8 {
		p.below(func(m *mem.Mem) api.Errno {
			_, e := fs.Create(m, string(rune('a'+i)))
			return e
		})
	}
	p.below(func(m *mem.Mem) api.Errno { return fs.Delete(m, "c") })
	p.below(func(m *mem.Mem) api.Errno { return fs.Delete(m, "h") })
	for h := 1; h <= 4; h++ {
		for _, n := range []int64{math.MinInt64, -1, 0, 1, 2, 3, 4, 7, 8, 9, 1 << 8, 1<<32 + 1, math.MaxInt64} {
			p.cell(h, 0, n)
			open := n == 1 || n == 2 || n == 4 || n == 7
			if got := len(Opened(p.m)) == 1; got != open {
				t.Fatalf("handle %d of %d is open: %v", h, n, got)
			}
		}
		p.cell(h, 0, 0)
	}
	for h := 4; h >= 1; h -= 3 {
		p.cell(h, 0, 5)
	}
	if l := Opened(p.m); !sameInts(l, []int{1, 4}) {
		t.Fatal(l)
	}
	l := Opened(p.m)
	l[0] = 3
	p.alike("the list changed")
}

// everyCall does each call that changes something, or that answers an error, and holds it against one error; none changes anything.
func everyCall(t *testing.T, m *mem.Mem, h int, name string, want api.Errno) {
	t.Helper()
	before := m.Bytes()
	if l := Opened(m); len(l) != 0 {
		t.Fatal("opened", l)
	}
	n, e := Open(m, name)
	k, e2 := Create(m, name)
	if n != 0 || k != 0 {
		t.Fatal("a handle with an error", n, k)
	}
	b, e3 := Read(m, h, -1)
	size, e4 := Size(m, h)
	place, e5 := Place(m, h)
	if len(b) != 0 || size != 0 || place != 0 {
		t.Fatal("an answer with an error", b, size, place)
	}
	for i, e := range []api.Errno{e, e2, e3, e4, e5, Close(m, h), Write(m, h, []byte("z")), Resize(m, h, -1), Seek(m, h, -1), Delete(m, name)} {
		if e != want {
			t.Fatalf("call %d: error %d, not %d", i, e, want)
		}
	}
	if !bytes.Equal(m.Bytes(), before) {
		t.Fatal("an error changed the memory")
	}
}

// P13.1: ErrFs comes ahead of all other errors; P1: memories that nobody made.
func TestNoFiles(t *testing.T) {
	m := mem.Flat(nil)
	fs.Format(m)
	for _, name := range []string{"a", "b", "c", "d"} {
		if _, e := Create(m, name); e != api.OK {
			t.Fatal(e)
		}
	}
	wants(t, Write(m, 2, []byte("text")), api.OK)
	m.Lay(6144+4, []byte{1})
	for _, one := range []*mem.Mem{nil, {}, mem.Flat(nil), m} {
		for _, h := range []int{math.MinInt, -1, 0, 1, 2, 4, 5, math.MaxInt} {
			for _, name := range []string{"", "a", "e", "much too long a name"} {
				everyCall(t, one, h, name, api.ErrFs)
			}
		}
	}
}

// P13.2: the errors of Open in their order, and the lowest handle.
func TestOpen(t *testing.T) {
	p := fresh(t, rand.New(rand.NewSource(2)))
	p.create("a")
	p.create("b")
	p.close(1)
	for _, want := range []int{1, 3, 4} {
		if h, e := p.open("b"); h != want || e != api.OK {
			t.Fatal(h, e)
		}
	}
	for name, want := range map[string]api.Errno{"": api.ErrName, "a b": api.ErrName, "1234567890123456": api.ErrName, "c": api.ErrMissing, "a": api.ErrHandles, "b": api.ErrHandles} {
		if h, e := p.open(name); h != 0 || e != want {
			t.Fatal(name, h, e)
		}
	}
	p.close(3)
	p.cell(3, 1, 77)
	if h, e := p.open("a"); h != 3 || e != api.OK {
		t.Fatal(h, e)
	}
	if p.m.Get(96) != 1 || p.m.Get(104) != 0 {
		t.Fatal("cells", p.m.Get(96), p.m.Get(104))
	}
}

// P13.2: the errors of Create in their order; a file that is there loses its bytes.
func TestCreate(t *testing.T) {
	p := fresh(t, rand.New(rand.NewSource(3)))
	for _, name := range []string{"", " ", "a\x7f", "1234567890123456"} {
		if h, e := p.create(name); h != 0 || e != api.ErrName {
			t.Fatal(name, h, e)
		}
	}
	p.create("a")
	wants(t, p.write(1, bytes.Repeat([]byte("z"), 130)), api.OK)
	wants(t, p.seek(1, 70), api.OK)
	if h, e := p.create("a"); h != 2 || e != api.OK {
		t.Fatal(h, e)
	}
	if n, e := Size(p.m, 1); n != 0 || e != api.OK {
		t.Fatal(n, e)
	}
	p.create("b")
	p.create("c")
	wants(t, p.write(2, []byte("kept")), api.OK)
	for name, want := range map[string]api.Errno{"a": api.ErrHandles, "d": api.ErrHandles, "": api.ErrName} {
		if h, e := p.create(name); h != 0 || e != want {
			t.Fatal(name, h, e)
		}
	}
	for _, name := range []string{"e", "f", "g", "h", "i"} {
		p.close(4)
		p.create(name)
	}
	if h, e := p.create("j"); h != 0 || e != api.ErrHandles {
		t.Fatal(h, e)
	}
	p.close(4)
	if h, e := p.create("j"); h != 0 || e != api.ErrInodes {
		t.Fatal(h, e)
	}
	if h, e := p.create("a"); h != 4 || e != api.OK {
		t.Fatal(h, e)
	}
}

// P13.2: a handle that isn't open holds the inode that comes: it is open from then on, and the next one is taken; with none left nothing is changed.
func TestCreateOpensAnother(t *testing.T) {
	p := fresh(t, rand.New(rand.NewSource(4)))
	p.cell(1, 0, 1)
	p.cell(1, 1, 5)
	if h, e := p.create("a"); h != 2 || e != api.OK {
		t.Fatal(h, e)
	}
	if l := Opened(p.m); !sameInts(l, []int{1, 2}) {
		t.Fatal(l)
	}
	p.open("a")
	p.cell(4, 0, 2)
	if h, e := p.create("b"); h != 0 || e != api.ErrHandles {
		t.Fatal(h, e)
	}
	if _, e := fs.Find(p.m, "b"); e != api.ErrMissing {
		t.Fatal(e)
	}
	if h, e := p.create("a"); h != 4 || e != api.OK {
		t.Fatal(h, e)
	}
}

// P13.3 to P13.5: handles that aren't open.
func TestClosed(t *testing.T) {
	p := fresh(t, rand.New(rand.NewSource(5)))
	p.create("a")
	p.create("b")
	p.write(2, []byte("bytes"))
	wants(t, p.close(2), api.OK)
	if p.m.Get(80) != 0 || p.m.Get(88) != 0 {
		t.Fatal("cells", p.m.Get(80), p.m.Get(88))
	}
	for _, h := range []int{math.MinInt, -3, -1, 0, 2, 3, 4, 5, 6, 1 << 32, math.MaxInt} {
		wants(t, p.close(h), api.ErrHandle)
		_, e := p.read(h, -1)
		wants(t, e, api.ErrHandle)
		wants(t, p.write(h, make([]byte, 5000)), api.ErrHandle)
		wants(t, p.resize(h, -1), api.ErrHandle)
		wants(t, p.seek(h, -1), api.ErrHandle)
	}
	p.cell(3, 0, 3)
	p.cell(4, 0, 9)
	wants(t, p.close(3), api.ErrHandle)
	wants(t, p.close(4), api.ErrHandle)
}

// Cells beside those of the four handles are nobody's, whatever they hold, and no number leads round to a handle.
func TestCellsBeside(t *testing.T) {
	m := mem.Flat(nil)
	fs.Format(m)
	fs.Create(m, "a")
	for _, at := range []int{32, 48, 64, 128, 144} {
		m.Set(at, 1)
	}
	p := pairOf(t, m)
	for _, h := range []int{-1, 0, 5, 6, 1<<60 + 1, math.MinInt + 1} {
		wants(t, p.close(h), api.ErrHandle)
		wants(t, p.seek(h, 0), api.ErrHandle)
	}
}

// P13.4: reading goes on from the place.
func TestRead(t *testing.T) {
	p := fresh(t, rand.New(rand.NewSource(6)))
	p.create("a")
	wants(t, p.write(1, []byte("0123456789")), api.OK)
	wants(t, p.seek(1, 2), api.OK)
	for _, one := range []struct {
		n    int
		want string
		e    api.Errno
	}{{3, "234", 0}, {-1, "", api.ErrRange}, {math.MinInt, "", api.ErrRange}, {0, "", 0}, {4, "5678", 0}, {math.MaxInt, "9", 0}, {7, "", 0}} {
		if b, e := p.read(1, one.n); string(b) != one.want || e != one.e {
			t.Fatalf("%d: %q %d", one.n, b, e)
		}
	}
	if n, _ := Place(p.m, 1); n != 10 {
		t.Fatal(n)
	}
}

// P13.4: writing goes on from the place, over what is there and behind it; what is too much changes nothing.
func TestWrite(t *testing.T) {
	p := fresh(t, rand.New(rand.NewSource(7)))
	p.create("a")
	p.open("a")
	wants(t, p.write(1, []byte("abcdef")), api.OK)
	wants(t, p.write(2, []byte("XY")), api.OK)
	wants(t, p.write(2, nil), api.OK)
	wants(t, p.write(2, []byte("Z123456")), api.OK)
	wants(t, p.write(1, []byte("+")), api.OK)
	if b, _ := fs.Read(p.m, 0, 0, 99); string(b) != "XYZ123+56" {
		t.Fatalf("%q", b)
	}
	wants(t, p.write(2, make([]byte, api.MaxFile-8)), api.ErrFsFull)
	if n, _ := Place(p.m, 2); n != 9 {
		t.Fatal(n)
	}
	wants(t, p.write(2, make([]byte, api.MaxFile-9)), api.OK)
	wants(t, p.write(2, []byte{1}), api.ErrFsFull)
	wants(t, p.write(2, []byte{}), api.OK)
	wants(t, p.write(1, []byte{1}), api.OK)
}

// A place below 0, or above the size, counts as the size, and is what it was when the file grows.
func TestPlaceCounts(t *testing.T) {
	p := fresh(t, rand.New(rand.NewSource(8)))
	p.create("a")
	wants(t, p.write(1, []byte("0123456789")), api.OK)
	for _, n := range []int64{math.MinInt64, -1, 11, 1 << 32, 1<<32 + 3, math.MaxInt64} {
		p.cell(1, 1, n)
		if got, e := Place(p.m, 1); got != 10 || e != api.OK {
			t.Fatal(n, got, e)
		}
		if p.m.Get(72) != n {
			t.Fatal("a question changed the place", n)
		}
		p.resize(1, 12)
		p.resize(1, 10)
		p.seek(1, 99)
		p.read(1, -1)
		p.write(1, make([]byte, api.MaxFile))
		if p.m.Get(72) != n {
			t.Fatal("an error changed the place", n)
		}
		if b, e := p.read(1, 5); len(b) != 0 || e != api.OK || p.m.Get(72) != 10 {
			t.Fatal(b, e, p.m.Get(72))
		}
		p.cell(1, 1, n)
		wants(t, p.write(1, nil), api.OK)
		if p.m.Get(72) != 10 {
			t.Fatal(p.m.Get(72))
		}
		p.cell(1, 1, n)
		wants(t, p.write(1, []byte("Z")), api.OK)
		wants(t, p.resize(1, 10), api.OK)
		if p.m.Get(72) != 11 {
			t.Fatal(p.m.Get(72))
		}
	}
	wants(t, p.seek(1, 8), api.OK)
	wants(t, p.resize(1, 3), api.OK)
	if n, _ := Place(p.m, 1); n != 3 {
		t.Fatal(n)
	}
	wants(t, p.resize(1, 20), api.OK)
	if n, _ := Place(p.m, 1); n != 8 {
		t.Fatal(n)
	}
}

// P13.5: Resize has fs's errors, Seek a range.
func TestSizes(t *testing.T) {
	p := fresh(t, rand.New(rand.NewSource(9)))
	p.create("a")
	wants(t, p.resize(1, 70), api.OK)
	for at, want := range map[int]api.Errno{math.MinInt: api.ErrRange, -1: api.ErrRange, 0: api.OK, 1: api.OK, 69: api.OK, 70: api.OK, 71: api.ErrRange, math.MaxInt: api.ErrRange} {
		wants(t, p.seek(1, at), want)
	}
	wants(t, p.resize(1, -1), api.ErrRange)
	wants(t, p.resize(1, math.MinInt), api.ErrRange)
	wants(t, p.resize(1, api.MaxFile+1), api.ErrFsFull)
	wants(t, p.resize(1, math.MaxInt), api.ErrFsFull)
	wants(t, p.resize(1, api.MaxFile), api.OK)
	wants(t, p.resize(1, 0), api.OK)
}

// P13.6: fs's errors; all handles of the file are closed, no others.
func TestDelete(t *testing.T) {
	p := fresh(t, rand.New(rand.NewSource(10)))
	p.create("a")
	p.create("b")
	p.open("a")
	p.cell(4, 0, 3)
	p.cell(4, 1, 7)
	p.write(3, []byte("text"))
	wants(t, p.remove(""), api.ErrName)
	wants(t, p.remove("c"), api.ErrMissing)
	wants(t, p.remove("a"), api.OK)
	if l := Opened(p.m); !sameInts(l, []int{2}) {
		t.Fatal(l)
	}
	if p.m.Get(64) != 0 || p.m.Get(96) != 0 || p.m.Get(104) != 0 || p.m.Get(112) != 3 || p.m.Get(120) != 7 {
		t.Fatal("cells")
	}
	wants(t, p.remove("a"), api.ErrMissing)
	if h, e := p.create("c"); h != 1 || e != api.OK {
		t.Fatal(h, e)
	}
	wants(t, p.remove("b"), api.OK)
	wants(t, p.remove("c"), api.OK)
}

// A handle stays open when its file is named anew.
func TestRenamed(t *testing.T) {
	p := fresh(t, rand.New(rand.NewSource(11)))
	p.create("a")
	p.write(1, []byte("text"))
	p.below(func(m *mem.Mem) api.Errno { return fs.Rename(m, "a", "b") })
	wants(t, p.seek(1, 1), api.OK)
	if b, _ := p.read(1, 9); string(b) != "ext" {
		t.Fatalf("%q", b)
	}
	wants(t, p.remove("b"), api.OK)
}

// Handles last with the memory, and an error leaves no page to be written.
func TestOverStore(t *testing.T) {
	d := disk.New(60)
	s, e := snap.Format(d)
	wants(t, e, api.OK)
	m, e := mem.Over(s)
	wants(t, e, api.OK)
	fs.Format(m)
	p := pairOf(t, m)
	p.create("a")
	p.write(1, []byte("text"))
	p.seek(1, 3)
	p.open("a")
	p.cell(3, 0, 2)
	p.cell(4, 0, 2)
	wants(t, m.Sync(), api.OK)
	wants(t, s.Commit(), api.OK)
	s, e = snap.Open(d)
	wants(t, e, api.OK)
	m, e = mem.Over(s)
	wants(t, e, api.OK)
	p = pairOf(t, m)
	if h, e := p.create("b"); h != 0 || e != api.ErrHandles {
		t.Fatal(h, e)
	}
	wants(t, m.Sync(), api.OK)
	used := len(s.Used())
	wants(t, s.Commit(), api.OK)
	if l := s.Used(); len(l) != used {
		t.Fatal("pages were written", used, l)
	}
	if b, e := p.read(1, 1); string(b) != "t" || e != api.OK {
		t.Fatal(b, e)
	}
	if l := m.Dirty(); !sameInts(l, []int{1}) {
		t.Fatal(l)
	}
}
