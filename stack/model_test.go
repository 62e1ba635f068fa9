package stack

import (
	"math/rand"
	"testing"

	"carrel/mem"
)

// model is what the chapter's words say of the stacks: plain bytes, where the lowest of a cell is ahead.
type model []byte

func modelOf(m *mem.Mem) model { return model(m.Bytes()) }

func (w model) get(a int) int64 {
	n := uint64(0)
	for i := 7; i >= 0; i-- {
		n = n<<8 | uint64(w[a+i])
	}
	return int64(n)
}

func (w model) set(a int, n int64) {
	for i := range 8 {
		w[a+i] = byte(n >> (8 * i))
	}
}

// side is what differs between the stacks; the numbers are the chapter's own.
type side struct {
	at, low, high, over, under int
}

var (
	dataSide = side{at: 32, low: 256, high: 512, over: -3, under: -4}
	backSide = side{at: 40, low: 512, high: 768, over: -5, under: -6}
)

func (w model) cells(s side) (l []int64) {
	top := s.high
	for a := s.low; a <= s.high; a += 8 {
		if w.get(s.at) == int64(a) {
			top = a
		}
	}
	for a := s.high - 8; a >= top; a -= 8 {
		l = append(l, w.get(a))
	}
	return l
}

func (w model) push(s side, n int64) int {
	has := len(w.cells(s))
	if has == 32 {
		return s.over
	}
	w.set(s.high-8*has-8, n)
	w.set(s.at, int64(s.high-8*has-8))
	return 0
}

func (w model) pop(s side) (int64, int) {
	l := w.cells(s)
	if len(l) == 0 {
		return 0, s.under
	}
	w.set(s.at, int64(s.high-8*len(l)+8))
	return l[len(l)-1], 0
}

func (w model) nth(s side, n int) (int64, int) {
	l := w.cells(s)
	if n < 0 || n >= len(l) {
		return 0, s.under
	}
	return l[len(l)-1-n], 0
}

func (w model) takes(n int) (l []int64, thrown int) {
	if n > len(w.cells(dataSide)) {
		return nil, -4
	}
	for range max(n, 0) {
		x, _ := w.pop(dataSide)
		l = append([]int64{x}, l...)
	}
	return l, 0
}

func (w model) lays(l []int64) int {
	if len(w.cells(dataSide))+len(l) > 32 {
		return -3
	}
	for _, n := range l {
		w.push(dataSide, n)
	}
	return 0
}

// pair is a memory beside its model.
type pair struct {
	t *testing.T
	m *mem.Mem
	w model
}

func pairOf(t *testing.T, m *mem.Mem) pair { return pair{t: t, m: m, w: modelOf(m)} }

// same fails where the memory isn't the model's, byte by byte, or where what the calls tell of it isn't.
func (p pair) same() {
	p.t.Helper()
	if string(p.m.Bytes()) != string(p.w) {
		p.t.Fatalf("the memory isn't as it should be: SpAt %d, wanted %d, RpAt %d, wanted %d",
			p.m.Get(32), p.w.get(32), p.m.Get(40), p.w.get(40))
	}
	wantsCells(p.t, Cells(p.m), p.w.cells(dataSide))
	if d, b := len(p.w.cells(dataSide)), len(p.w.cells(backSide)); Depth(p.m) != d || Deep(p.m) != b {
		p.t.Fatal(Depth(p.m), Deep(p.m), "wanted", d, b)
	}
}

func (p pair) wantsThrow(got, want int) {
	p.t.Helper()
	if got != want {
		p.t.Fatalf("throw %d, not %d", got, want)
	}
	p.same()
}

func (p pair) wantsCell(n int64, thrown int, wanted int64, should int) {
	p.t.Helper()
	if n != wanted {
		p.t.Fatalf("cell %d, not %d", n, wanted)
	}
	p.wantsThrow(thrown, should)
}

func wantsCells(t *testing.T, l, want []int64) {
	t.Helper()
	if len(l) != len(want) {
		t.Fatal(l, "wanted", want)
	}
	for i := range l {
		if l[i] != want[i] {
			t.Fatal(l, "wanted", want)
		}
	}
}

func (p pair) push(n int64)  { p.t.Helper(); p.wantsThrow(Push(p.m, n), p.w.push(dataSide, n)) }
func (p pair) rpush(n int64) { p.t.Helper(); p.wantsThrow(RPush(p.m, n), p.w.push(backSide, n)) }

func (p pair) pop() {
	p.t.Helper()
	n, thrown := Pop(p.m)
	wanted, should := p.w.pop(dataSide)
	p.wantsCell(n, thrown, wanted, should)
}

func (p pair) rpop() {
	p.t.Helper()
	n, thrown := RPop(p.m)
	wanted, should := p.w.pop(backSide)
	p.wantsCell(n, thrown, wanted, should)
}

func (p pair) at(n int) {
	p.t.Helper()
	x, thrown := At(p.m, n)
	wanted, should := p.w.nth(dataSide, n)
	p.wantsCell(x, thrown, wanted, should)
	x, thrown = RAt(p.m, n)
	wanted, should = p.w.nth(backSide, n)
	p.wantsCell(x, thrown, wanted, should)
}

func (p pair) takes(n int) {
	p.t.Helper()
	l, thrown := Takes(p.m, n)
	wanted, should := p.w.takes(n)
	wantsCells(p.t, l, wanted)
	p.wantsThrow(thrown, should)
}

func (p pair) lays(l ...int64) {
	p.t.Helper()
	p.wantsThrow(Lays(p.m, l...), p.w.lays(l))
}

func (p pair) clear() {
	p.t.Helper()
	Clear(p.m)
	p.w.set(32, 512)
	p.w.set(40, 768)
	p.same()
}

// some are cells that differ in all their bytes.
func some(r *rand.Rand, many int) []int64 {
	l := make([]int64, many)
	for i := range l {
		l[i] = int64(r.Uint64())
	}
	return l
}

// filled is a memory in which no byte is as it happens to be.
func filled(r *rand.Rand) *mem.Mem {
	b := make([]byte, 8192)
	r.Read(b)
	return mem.Flat(b)
}
