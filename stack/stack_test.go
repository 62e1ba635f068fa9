package stack

import (
	"math"
	"math/rand"
	"testing"

	"carrel/api"
	"carrel/disk"
	"carrel/mem"
	"carrel/snap"
)

// strange are numbers of cells that no stack has, those among them that come to one in their lower bits.
var strange = []int{-1, -2, -8, 32, 33, 64, 255, 256, 257, 1 << 16, 1<<31 - 1, 1 << 31, 1 << 32, 1<<32 + 1, 1 << 60, 1<<61 + 1, 1 << 62,
	math.MaxInt - 1, math.MaxInt, math.MinInt, math.MinInt + 1, -1 << 32, 1 - 1<<61}

// The chapter's example.
func TestExample(t *testing.T) {
	m := mem.Flat(nil)
	if Push(m, 1) != 0 || Push(m, 2) != 0 {
		t.Fatal("thrown")
	}
	wantsCells(t, Cells(m), []int64{1, 2})
	if m.Get(32) != 496 {
		t.Fatal(m.Get(32))
	}
	if n, thrown := Pop(m); n != 2 || thrown != 0 {
		t.Fatal(n, thrown)
	}
	if m.Get(496) != 2 || m.Get(504) != 1 {
		t.Fatal(m.Get(496), m.Get(504))
	}
}

// tops are what a cell that should hold an address may hold: all near the stacks, and wild ones.
func tops() (l []int64) {
	for a := int64(-16); a <= 1040; a++ {
		l = append(l, a)
	}
	for _, far := range []int64{1 << 32, -1 << 32, 1 << 16, 1 << 56, -1 << 63} {
		l = append(l, far+256, far+496, far+512, far+520, far+760)
	}
	return append(l, math.MaxInt64, math.MinInt64, -512, -256, 8192)
}

// P17.1: what isn't a multiple of 8 within the bounds counts as an empty stack.
func TestDepth(t *testing.T) {
	m := filled(rand.New(rand.NewSource(1)))
	for _, a := range tops() {
		for _, b := range []int64{512, 768, a} {
			m.Set(32, a)
			m.Set(40, b)
			pairOf(t, m).same()
		}
	}
	for _, x := range []struct {
		sp, rp      int64
		depth, deep int
	}{{512, 768, 0, 0}, {504, 760, 1, 1}, {256, 512, 32, 32}, {248, 504, 0, 0}, {520, 776, 0, 0}, {500, 700, 0, 0}, {0, 0, 0, 0}, {264, 768, 31, 0}} {
		m.Set(32, x.sp)
		m.Set(40, x.rp)
		if Depth(m) != x.depth || Deep(m) != x.deep {
			t.Error(x, Depth(m), Deep(m))
		}
	}
}

// P17.2 and P17.4: whatever the cell of the top holds, each call goes from what it counts as, and what throws changes nothing.
func TestTops(t *testing.T) {
	r := rand.New(rand.NewSource(2))
	for _, a := range tops() {
		for _, do := range []func(p pair){
			func(p pair) { p.push(-5) },
			func(p pair) { p.rpush(-6) },
			func(p pair) { p.pop() },
			func(p pair) { p.rpop() },
			func(p pair) { p.at(0) },
			func(p pair) { p.at(31) },
			func(p pair) { p.takes(0) },
			func(p pair) { p.takes(-3) },
			func(p pair) { p.takes(2) },
			func(p pair) { p.lays() },
			func(p pair) { p.lays(7, -8, 9) },
			func(p pair) { p.clear() },
		} {
			m := filled(r)
			m.Set(32, a)
			m.Set(40, a)
			do(pairOf(t, m))
		}
	}
}

// P17.2: 32 cells go on each stack, and the bytes of those that went stay.
func TestPushPop(t *testing.T) {
	r := rand.New(rand.NewSource(3))
	p := pairOf(t, filled(r))
	p.clear()
	for i, n := range some(r, 32) {
		if Depth(p.m) != i || Deep(p.m) != i {
			t.Fatal(Depth(p.m), Deep(p.m))
		}
		p.push(n)
		p.rpush(^n)
		if p.m.Get(512-8*i-8) != n || p.m.Get(768-8*i-8) != ^n {
			t.Fatal(i)
		}
	}
	if Push(p.m, 1) != -3 || RPush(p.m, 1) != -5 {
		t.Fatal("not full")
	}
	p.same()
	for range 32 {
		p.pop()
		p.rpop()
	}
	for range 2 {
		if n, thrown := Pop(p.m); n != 0 || thrown != -4 {
			t.Fatal(n, thrown)
		}
		if n, thrown := RPop(p.m); n != 0 || thrown != -6 {
			t.Fatal(n, thrown)
		}
		p.same()
	}
	for _, n := range []int64{0, -1, math.MinInt64, math.MaxInt64, 255, 256, 1 << 56} {
		p.push(n)
		p.rpush(n)
		p.pop()
		p.rpop()
	}
}

// P17.3: each cell of stacks of every depth.
func TestAt(t *testing.T) {
	r := rand.New(rand.NewSource(4))
	p := pairOf(t, filled(r))
	p.clear()
	for depth := range 33 {
		for n := range 40 {
			p.at(n)
		}
		for _, n := range strange {
			p.at(n)
		}
		if depth < 32 {
			p.push(int64(r.Uint64()))
			p.rpush(int64(r.Uint64()))
		}
	}
	if n, thrown := At(p.m, 0); n != p.m.Get(256) || thrown != 0 {
		t.Fatal(n, thrown)
	}
	if n, thrown := RAt(p.m, 31); n != p.m.Get(760) || thrown != 0 {
		t.Fatal(n, thrown)
	}
}

// The stacks' depths need not be alike.
func TestUneven(t *testing.T) { // P17.3
	p := pairOf(t, mem.Flat(nil))
	p.lays(1, 2, 3)
	p.rpush(4)
	for n := range 4 {
		p.at(n)
	}
	if n, thrown := At(p.m, 2); n != 1 || thrown != 0 {
		t.Fatal(n, thrown)
	}
	if n, thrown := RAt(p.m, 1); n != 0 || thrown != -6 {
		t.Fatal(n, thrown)
	}
}

// P17.4: every number of cells at every depth, both ways.
func TestTakesLays(t *testing.T) {
	r := rand.New(rand.NewSource(5))
	for depth := range 33 {
		for n := range 36 {
			p := pairOf(t, filled(r))
			p.clear()
			p.lays(some(r, depth)...)
			p.takes(n)
			p.clear()
			p.lays(some(r, depth)...)
			p.lays(some(r, n)...)
		}
		p := pairOf(t, filled(r))
		p.clear()
		p.lays(some(r, depth)...)
		for _, n := range strange {
			if n < 0 || n > depth {
				p.takes(n)
			}
		}
	}
}

func TestTakesOrder(t *testing.T) { // P17.4
	m := mem.Flat(nil)
	if thrown := Lays(m, 1, 2, 3, 4); thrown != 0 {
		t.Fatal(thrown)
	}
	l, thrown := Takes(m, 3)
	wantsCells(t, l, []int64{2, 3, 4})
	if thrown != 0 || m.Get(32) != 504 || m.Get(480) != 4 {
		t.Fatal(thrown, m.Get(32), m.Get(480))
	}
	if l, thrown := Takes(m, 2); len(l) != 0 || thrown != -4 || Depth(m) != 1 {
		t.Fatal(l, thrown, Depth(m))
	}
	if thrown := Lays(m, make([]int64, 100000)...); thrown != -3 || Depth(m) != 1 {
		t.Fatal(thrown, Depth(m))
	}
}

// P17.5: both stacks are empty behind Clear, and no other byte is another.
func TestClear(t *testing.T) {
	r := rand.New(rand.NewSource(6))
	for range 20 {
		p := pairOf(t, filled(r))
		p.clear()
		p.lays(some(r, r.Intn(33))...)
		p.rpush(3)
		p.clear()
		if p.m.Get(32) != 512 || p.m.Get(40) != 768 || len(Cells(p.m)) != 0 || Deep(p.m) != 0 {
			t.Fatal(p.m.Get(32), p.m.Get(40))
		}
	}
}

// P2: what is answered is new memory, and what is handed in is neither changed nor kept.
func TestNewMemory(t *testing.T) {
	m := mem.Flat(nil)
	given := []int64{1, 2, 3, 4, 5}
	if thrown := Lays(m, given[:3]...); thrown != 0 {
		t.Fatal(thrown)
	}
	wantsCells(t, given, []int64{1, 2, 3, 4, 5})
	given[0] = 9
	one, two := Cells(m), Cells(m)
	one[1] = 9
	wantsCells(t, two, []int64{1, 2, 3})
	wantsCells(t, Cells(m), []int64{1, 2, 3})
	three, _ := Takes(m, 2)
	three[0] = 9
	if m.Get(496) != 2 {
		t.Fatal(m.Get(496))
	}
}

// Of a nil Mem, and of one that nobody made.
func TestUnmade(t *testing.T) { // P17.1 to P17.5
	for _, m := range []*mem.Mem{nil, {}} {
		for range 2 {
			if Depth(m) != 0 || Deep(m) != 0 || len(Cells(m)) != 0 {
				t.Fatal(Depth(m), Deep(m), Cells(m))
			}
			for _, thrown := range []int{Push(m, 1), Lays(m, 1), Lays(m, 1, 2)} {
				if thrown != -3 {
					t.Fatal(thrown)
				}
			}
			if thrown := RPush(m, 1); thrown != -5 {
				t.Fatal(thrown)
			}
			unmadeTakes(t, m)
			Clear(m)
		}
		if l, thrown := Takes(m, 0); len(l) != 0 || thrown != 0 {
			t.Fatal(l, thrown)
		}
		if thrown := Lays(m); thrown != 0 {
			t.Fatal(thrown)
		}
	}
}

func unmadeTakes(t *testing.T, m *mem.Mem) {
	t.Helper()
	for _, n := range append([]int{0, 1}, strange...) {
		for _, take := range []func() (int64, int){
			func() (int64, int) { return Pop(m) },
			func() (int64, int) { return At(m, n) },
		} {
			if x, thrown := take(); x != 0 || thrown != -4 {
				t.Fatal(x, thrown)
			}
		}
		for _, take := range []func() (int64, int){
			func() (int64, int) { return RPop(m) },
			func() (int64, int) { return RAt(m, n) },
		} {
			if x, thrown := take(); x != 0 || thrown != -6 {
				t.Fatal(x, thrown)
			}
		}
	}
	if l, thrown := Takes(m, 1); len(l) != 0 || thrown != -4 {
		t.Fatal(l, thrown)
	}
}

// The stacks lie in the memory: they last with its pages.
func TestOverStore(t *testing.T) {
	d := disk.New(60)
	s, e := snap.Format(d)
	if e != api.OK {
		t.Fatal(e)
	}
	m, _ := mem.Over(s)
	if Lays(m, 1, 2) != 0 || RPush(m, 3) != 0 || m.Sync() != api.OK || s.Commit() != api.OK {
		t.Fatal("not stored")
	}
	if Lays(m, 4) != 0 || m.Renew() != api.OK {
		t.Fatal("not read anew")
	}
	wantsCells(t, Cells(m), []int64{1, 2})
	if n, thrown := RPop(m); n != 3 || thrown != 0 {
		t.Fatal(n, thrown)
	}
}

// Long runs of calls, held against the model byte by byte.
func TestRuns(t *testing.T) {
	r := rand.New(rand.NewSource(7))
	for range 60 {
		p := pairOf(t, filled(r))
		if r.Intn(2) == 0 {
			p.clear()
		}
		for range 150 {
			switch n := int64(r.Uint64()); r.Intn(12) {
			case 0, 1:
				p.push(n)
			case 2:
				p.pop()
			case 3, 4:
				p.rpush(n)
			case 5:
				p.rpop()
			case 6:
				p.at(r.Intn(36) - 2)
			case 7:
				p.takes(r.Intn(12) - 2)
			case 8, 9:
				p.lays(some(r, r.Intn(9))...)
			case 10:
				a := 32 + 8*r.Intn(2)
				top := int64(r.Intn(600) + 200)
				p.m.Set(a, top)
				p.w.set(a, top)
				p.same()
			default:
				if r.Intn(20) == 0 {
					p.clear()
				}
			}
		}
	}
}
