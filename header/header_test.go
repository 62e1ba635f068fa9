package header

import (
	"bytes"
	"math"
	"math/rand"
	"strings"
	"testing"

	"carrel/api"
	"carrel/disk"
	"carrel/mem"
	"carrel/snap"
)

// wild are places where no header is, those among them that come to one in their lower bits.
var wild = []int64{math.MinInt64, math.MinInt64 + 8, -1 << 32, -1536, -8, -1, 0, 8, 1528, 1535, 1537, 1540, 5632, 5640, 8184, 8192,
	1<<13 + 1536, 1<<16 + 1536, 1<<32 + 1536, 1<<63 - 8, math.MaxInt64, 1<<62 + 1536, math.MinInt64 + 1536}

// The chapter's example.
func TestExample(t *testing.T) { // P18.2
	b, thrown := Bytes(api.Header{Name: "a"})
	if thrown != 0 || !bytes.Equal(b, []byte{0, 0, 0, 0, 0, 0, 0, 0, 1, 97, 0, 0, 0, 0, 0, 0}) {
		t.Fatal(b, thrown)
	}
	m := mem.Flat(nil)
	m.Lay(1536, b)
	m.Set(0, 1560)
	if h, is := Read(m, 1536); !is || h != (api.Header{At: 1536, Name: "a", Xt: 1552}) {
		t.Fatalf("%+v %v", h, is)
	}
}

// P18.1: at every place, of bytes of all kinds.
func TestReadPlaces(t *testing.T) {
	r := rand.New(rand.NewSource(1))
	for _, here := range []int64{1535, 1536, 1537, 1552, 1560, 1600, 3000, 5624, 5631, 5632, 5633, -1} {
		p := pairOf(t, filled(r))
		p.set(0, here)
		for at := int64(-20); at < 8300; at++ {
			p.read(at)
		}
		for _, at := range wild {
			if p.read(at) {
				t.Fatal(at, "is a header")
			}
		}
		p.same()
	}
}

// P18.1: every byte of length and marks, with Here at every place near the code cell.
func TestReadByte(t *testing.T) {
	r := rand.New(rand.NewSource(2))
	for _, at := range []int64{1536, 1544, 5600} {
		p := pairOf(t, filled(r))
		for b := range 256 {
			p.put(at+8, byte(b))
			for here := at - 1; here < at+66; here++ {
				p.set(0, here)
				p.read(at)
			}
		}
	}
}

// P18.1: the code cell lies wholly below Here, and bit 32 counts for nothing.
func TestReadEdges(t *testing.T) {
	m := mem.Flat(nil)
	for _, x := range []struct {
		b, here int64
		is      bool
		xt      int64
	}{
		{1, 1560, true, 1552}, {1, 1559, false, 0}, {7, 1560, true, 1552}, {8, 1560, false, 0}, {8, 1568, true, 1560}, {15, 1568, true, 1560},
		{31, 1584, true, 1576}, {31, 1583, false, 0}, {0, 5632, false, 0}, {32, 5632, false, 0}, {33, 1560, true, 1552}, {63, 1584, true, 1576},
		{224, 5632, false, 0}, {128, 5632, false, 0}, {64, 5632, false, 0},
	} {
		m.Set(0, x.here)
		m.Set(1536, -7)
		m.Set(1544, x.b|'x'<<8)
		h, is := Read(m, 1536)
		if is != x.is || h.Xt != x.xt || is && (h.Link != -7 || h.At != 1536 || len(h.Name) != int(x.b%32) || h.Name[0] != 'x') {
			t.Errorf("%+v: %+v %v", x, h, is)
		}
		if !is && h != (api.Header{}) {
			t.Errorf("%+v: %+v", x, h)
		}
	}
	m.Set(0, 1560)
	for _, x := range []struct {
		b                 int64
		immediate, hidden bool
	}{{1, false, false}, {65, false, true}, {129, true, false}, {193, true, true}, {225, true, true}, {33, false, false}} {
		m.Set(1544, x.b)
		if h, is := Read(m, 1536); !is || h.Immediate != x.immediate || h.Hidden != x.hidden {
			t.Errorf("%+v: %+v %v", x, h, is)
		}
	}
}

// P18.2: names of every length with every mark; the other fields count for nothing.
func TestBytes(t *testing.T) {
	r := rand.New(rand.NewSource(3))
	for length := range 70 {
		for kind := range 4 {
			h := api.Header{At: r.Int63(), Link: int64(r.Uint64()), Name: someName(r, length), Immediate: kind&1 != 0, Hidden: kind&2 != 0, Xt: -r.Int63()}
			b, thrown := Bytes(h)
			want, should := plain(h)
			if !bytes.Equal(b, want) || thrown != should {
				t.Fatalf("%+v: %v %d", h, b, thrown)
			}
		}
	}
}

func TestBytesThrows(t *testing.T) { // P18.2
	for _, x := range []struct {
		name   string
		thrown int
		size   int
	}{
		{"", -16, 0}, {strings.Repeat("a", 32), -19, 0}, {strings.Repeat("é", 16), -19, 0}, {strings.Repeat("a", 1<<20), -19, 0},
		{strings.Repeat("a", 257), -19, 0}, {strings.Repeat("a", 31), 0, 40}, {strings.Repeat("a", 23), 0, 32}, {strings.Repeat("a", 24), 0, 40},
		{"1234567", 0, 16}, {"12345678", 0, 24}, {"\x00", 0, 16}, {" ", 0, 16},
	} {
		b, thrown := Bytes(api.Header{Name: x.name, Immediate: true})
		if thrown != x.thrown || len(b) != x.size {
			t.Errorf("%.40q: %v %d", x.name, b, thrown)
		}
	}
}

// P18.3: what Here and Latest tell of whatever their cells hold.
func TestHere(t *testing.T) {
	p := pairOf(t, mem.Flat(nil))
	for here := int64(-10); here < 8300; here++ {
		p.set(0, here)
		p.ends()
	}
	for _, here := range wild {
		p.set(0, here)
		p.ends()
	}
	for _, x := range [][2]int64{{1535, 1536}, {1536, 1536}, {1537, 1537}, {5631, 5631}, {5632, 5632}, {5633, 1536}, {0, 1536}, {1<<32 + 2000, 1536}} {
		p.set(0, x[0])
		if h := Here(p.m); h != x[1] {
			t.Error(x, h)
		}
	}
}

func TestLatest(t *testing.T) { // P18.3
	r := rand.New(rand.NewSource(4))
	p := pairOf(t, filled(r))
	for _, here := range []int64{0, 1536, 1700, 5632} {
		p.set(0, here)
		for at := int64(-16); at < 8300; at++ {
			p.set(8, at)
			p.ends()
		}
		for _, at := range wild {
			p.set(8, at)
			if p.ends(); Latest(p.m) != 0 {
				t.Fatal(at, Latest(p.m))
			}
		}
	}
	p.set(0, 1560)
	p.set(8, 1536)
	p.put(1544, 64+5)
	if l := Latest(p.m); l != 1536 {
		t.Fatal(l)
	}
	p.set(0, 1559)
	if l := Latest(p.m); l != 0 {
		t.Fatal(l)
	}
}

func TestAlign(t *testing.T) { // P18.4
	for n := int64(-1000); n < 1000; n++ {
		a := Align(n)
		if a%8 != 0 || a < n || a-8 >= n {
			t.Fatal(n, a)
		}
	}
	for _, x := range [][2]int64{{0, 0}, {1, 8}, {8, 8}, {9, 16}, {-1, 0}, {-8, -8}, {-9, -8}, {1<<63 - 8, 1<<63 - 8}, {1<<63 - 7, -1 << 63},
		{math.MaxInt64, -1 << 63}, {math.MinInt64, math.MinInt64}, {math.MinInt64 + 1, math.MinInt64 + 8}, {1<<32 + 1, 1<<32 + 8}} {
		if a := Align(x[0]); a != x[1] {
			t.Error(x, a)
		}
	}
}

// P18.5: of every byte, what the marks were; the length and bit 32 stay.
func TestMark(t *testing.T) {
	r := rand.New(rand.NewSource(5))
	p := pairOf(t, filled(r))
	p.set(0, 5632)
	for b := range 256 {
		for kind := range 4 {
			p.put(2008, byte(b))
			is := p.mark(2000, kind&1 != 0, kind&2 != 0)
			if is != (b%32 != 0) || p.m.Load(2008, 1)[0]&63 != byte(b)&63 {
				t.Fatal(b, kind, is)
			}
			p.read(2000)
		}
	}
}

// P18.5: where Read tells no header nothing is changed.
func TestMarkPlaces(t *testing.T) {
	r := rand.New(rand.NewSource(6))
	p := pairOf(t, filled(r))
	p.set(0, 3000)
	for at := int64(1500); at < 3100; at++ {
		p.mark(at, r.Intn(2) == 0, r.Intn(2) == 0)
	}
	for _, at := range wild {
		if p.mark(at, true, true) {
			t.Fatal(at)
		}
	}
	for here := int64(1536); here < 1580; here++ {
		p.set(0, here)
		p.mark(1536, here%2 == 0, here%3 == 0)
	}
}

// P18.6: headers one behind the other, told as they were laid.
func TestThereAndBack(t *testing.T) {
	r := rand.New(rand.NewSource(7))
	for range 20 {
		p := pairOf(t, filled(r))
		at, all := int64(1536), []api.Header{}
		for {
			h := api.Header{At: at, Link: int64(r.Uint64()), Name: someName(r, 1+r.Intn(31)), Immediate: r.Intn(2) == 0, Hidden: r.Intn(2) == 0}
			b, thrown := Bytes(h)
			h.Xt = at + int64(len(b))
			if thrown != 0 || h.Xt+8 > 5632 {
				break
			}
			p.m.Lay(int(at), b)
			at = h.Xt + 8*int64(1+r.Intn(4))
			all = append(all, h)
		}
		p.m.Set(0, min(at, 5632))
		for i, want := range all {
			if h, is := Read(p.m, want.At); !is || h != want {
				t.Fatalf("%d: %+v %v, wanted %+v", i, h, is, want)
			}
			want.Immediate, want.Hidden = !want.Immediate, i%2 == 0
			if !Mark(p.m, want.At, want.Immediate, want.Hidden) {
				t.Fatal(i)
			}
			if h, is := Read(p.m, want.At); !is || h != want {
				t.Fatalf("%d: %+v %v, wanted %+v", i, h, is, want)
			}
		}
	}
}

// P2: what is answered is new memory.
func TestNewMemory(t *testing.T) {
	h := api.Header{Name: "word"}
	one, _ := Bytes(h)
	two, _ := Bytes(h)
	one[9] = 'W'
	if string(two[9:13]) != "word" || cap(two) != len(two) && string(two[:cap(two)][len(two):]) != string(make([]byte, cap(two)-len(two))) {
		t.Fatal(two)
	}
	m := mem.Flat(nil)
	m.Lay(1536, two)
	m.Set(0, 2000)
	told, _ := Read(m, 1536)
	m.Lay(1545, []byte("none"))
	if told.Name != "word" {
		t.Fatal(told)
	}
}

// Of a nil Mem, and of one that nobody made.
func TestUnmade(t *testing.T) { // P18.1, P18.3, P18.5
	for _, m := range []*mem.Mem{nil, {}} {
		if Here(m) != 1536 || Latest(m) != 0 {
			t.Fatal(Here(m), Latest(m))
		}
		for _, at := range append([]int64{1536, 1544, 5624}, wild...) {
			if h, is := Read(m, at); is || h != (api.Header{}) {
				t.Fatal(h, is)
			}
			if Mark(m, at, true, true) {
				t.Fatal(at)
			}
		}
	}
}

// Headers last with the memory's pages.
func TestOverStore(t *testing.T) {
	s, e := snap.Format(disk.New(60))
	if e != api.OK {
		t.Fatal(e)
	}
	m, _ := mem.Over(s)
	b, _ := Bytes(api.Header{Name: "lasting"})
	m.Set(0, 1560)
	m.Set(8, 1536)
	m.Lay(1536, b)
	if m.Sync() != api.OK || s.Commit() != api.OK || !Mark(m, 1536, true, true) || m.Renew() != api.OK {
		t.Fatal("not stored")
	}
	if h, is := Read(m, Latest(m)); !is || h != (api.Header{At: 1536, Name: "lasting", Xt: 1552}) {
		t.Fatalf("%+v %v", h, is)
	}
}
