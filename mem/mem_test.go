package mem

import (
	"bytes"
	"encoding/binary"
	"math"
	"slices"
	"testing"

	"carrel/api"
)

// far are places that no memory has, and that wrap round when something is added or taken away.
var far = []int64{math.MinInt64, math.MinInt64 + 1, math.MinInt64 + 8, math.MinInt64 + 8192, -1 << 32, -1<<32 + 800, -8200, -8192, 8192, 8200, 1<<16 + 800, 1 << 32, 1<<32 + 800, 1<<32 + 5632, math.MaxInt64 - 8191, math.MaxInt64 - 8, math.MaxInt64 - 7, math.MaxInt64}

// places are all in the memory, some on both sides of it, and those far away.
func places() []int64 {
	l := slices.Clone(far)
	for a := int64(-20); a < 8192+20; a++ {
		l = append(l, a)
	}
	return l
}

// numbers are cells with all kinds of bytes.
var numbers = []int64{0, 1, -1, 255, 256, -256, 0x0102030405060708, -0x0102030405060708, math.MinInt64, math.MaxInt64}

// filled is so many bytes, of which no two that stand side by side, or a page apart, are alike, and none is a nought.
func filled(n int) []byte {
	b := make([]byte, n)
	for i := range b {
		b[i] = byte(1 + (i+i/64*7)%251)
	}
	return b
}

// padded is what a memory has of b's bytes.
func padded(b []byte) []byte {
	all := make([]byte, 8192)
	copy(all, b)
	return all
}

func mustBe(t *testing.T, m *Mem, want []byte) {
	t.Helper()
	got := m.Bytes()
	if len(got) != 8192 {
		t.Fatal("there are", len(got), "bytes")
	}
	for a := range got {
		if got[a] != want[a] {
			t.Fatal("at", a, "there is", got[a], "want", want[a])
		}
	}
}

func mustThrow(t *testing.T, what string, a int64, got, want int) {
	t.Helper()
	if got != want {
		t.Fatalf("%s at %d throws %d, want %d", what, a, got, want)
	}
}

// laid is a memory with b's bytes laid from a on, by the chapter's words.
func laid(all []byte, a int, b []byte) []byte {
	out := bytes.Clone(all)
	for i, one := range b {
		if at := int64(a) + int64(i); at >= 0 && at < 8192 {
			out[at] = one
		}
	}
	return out
}

// loaded is what n bytes from a on are, by the chapter's words.
func loaded(all []byte, a, n int) []byte {
	out := make([]byte, min(max(n, 0), 8192))
	for i := range out {
		if a < 8192 && a+i >= 0 && a+i < 8192 {
			out[i] = all[a+i]
		}
	}
	return out
}

// cellBytes are a cell's, the lowest ahead.
func cellBytes(n int64) []byte { return binary.LittleEndian.AppendUint64(nil, uint64(n)) }

func cellAt(all []byte, a int) int64 { return int64(binary.LittleEndian.Uint64(loaded(all, a, 8))) }

func TestExampleOfTheChapter(t *testing.T) { // P9.2, P9.3
	m := Flat([]byte{7})
	mustThrow(t, "PutCell", 768, m.PutCell(768, -1), 0)
	if n, thrown := m.Byte(775); n != 255 || thrown != 0 {
		t.Fatal("Byte answers", n, thrown)
	}
	mustThrow(t, "PutCell", 769, m.PutCell(769, 1), -23)
	mustThrow(t, "PutCell", 0, m.PutCell(0, 1), -9)
	if n, thrown := m.Cell(0); n != 7 || thrown != 0 {
		t.Fatal("Cell answers", n, thrown)
	}
}

func TestFlat(t *testing.T) { // P9.1: cut, or filled up with noughts
	for _, n := range []int{0, 1, 2, 7, 8, 63, 64, 65, 127, 128, 4096, 8127, 8128, 8129, 8191, 8192, 8193, 8256, 20000} {
		b := filled(n)
		mustBe(t, Flat(b), padded(b))
	}
	mustBe(t, Flat(nil), make([]byte, 8192))
	mustBe(t, Flat([]byte{}), make([]byte, 8192))
	mustBe(t, Flat(filled(8192)[:100]), padded(filled(100))) // P2: what lies behind the length isn't read
}

func TestFlatKeepsNothingOfIts(t *testing.T) { // P2
	for _, n := range []int{100, 8192, 9000} {
		b := filled(n)
		want := padded(b)
		m := Flat(b)
		clear(b)
		mustBe(t, m, want)
		b = filled(n)
		m = Flat(b)
		m.Lay(0, make([]byte, 8192))
		if !bytes.Equal(b, filled(n)) {
			t.Fatal("what Flat was given is changed")
		}
	}
}

func TestMemoriesThatNobodyMade(t *testing.T) { // P9.1: noughts that nothing changes
	for _, m := range []*Mem{nil, {}, new(Mem)} {
		for range 2 {
			for _, a := range places() {
				mustTellNothing(t, m, a)
			}
			if e := m.Sync(); e != api.ErrNone {
				t.Fatal("Sync answers", e)
			}
			if e := m.Renew(); e != api.ErrNone {
				t.Fatal("Renew answers", e)
			}
			if l := m.Dirty(); len(l) != 0 {
				t.Fatal("Dirty answers", l)
			}
			mustBe(t, m, make([]byte, 8192))
		}
		for _, n := range []int{math.MinInt, -1, 0, 1, 64, 8191, 8192, 8193, math.MaxInt} {
			if b := m.Load(5, n); !bytes.Equal(b, make([]byte, min(max(n, 0), 8192))) {
				t.Fatal("Load of", n, "answers", len(b), "bytes")
			}
		}
	}
}

func mustTellNothing(t *testing.T, m *Mem, a int64) {
	t.Helper()
	if n, thrown := m.Byte(a); n != 0 || thrown != -9 {
		t.Fatal("Byte answers", n, thrown)
	}
	if n, thrown := m.Cell(a); n != 0 || thrown != -9 {
		t.Fatal("Cell answers", n, thrown)
	}
	mustThrow(t, "PutByte", a, m.PutByte(a, 1), -9)
	mustThrow(t, "PutCell", a, m.PutCell(a, 1), -9)
	m.Set(int(a), -1)
	m.Lay(int(a), []byte{1, 2, 3})
	if n := m.Get(int(a)); n != 0 {
		t.Fatal("Get answers", n)
	}
}

func TestByte(t *testing.T) { // P9.2
	all := filled(8192)
	m := Flat(all)
	for _, a := range places() {
		n, thrown := m.Byte(a)
		if a < 0 || a > 8191 {
			mustThrow(t, "Byte", a, thrown, -9)
			if n != 0 {
				t.Fatal("Byte at", a, "answers", n, "with a throw")
			}
			continue
		}
		mustThrow(t, "Byte", a, thrown, 0)
		if n != int64(all[a]) {
			t.Fatal("Byte at", a, "is", n)
		}
	}
	for n := range int64(256) {
		if got, thrown := Flat([]byte{byte(n)}).Byte(0); got != n || thrown != 0 {
			t.Fatal("Byte answers", got, thrown, "want", n)
		}
	}
	mustBe(t, m, all)
}

func TestCell(t *testing.T) { // P9.2: not all inside comes ahead of not aligned
	all := filled(8192)
	m := Flat(all)
	for _, a := range places() {
		want, wantThrow := int64(0), 0
		switch {
		case a < 0 || a > 8184:
			wantThrow = -9
		case a%8 != 0:
			wantThrow = -23
		default:
			want = cellAt(all, int(a))
		}
		n, thrown := m.Cell(a)
		mustThrow(t, "Cell", a, thrown, wantThrow)
		if n != want {
			t.Fatal("Cell at", a, "is", n, "want", want)
		}
	}
	for _, n := range numbers {
		if got, thrown := Flat(cellBytes(n)).Cell(0); got != n || thrown != 0 {
			t.Fatal("Cell answers", got, thrown, "want", n)
		}
	}
	mustBe(t, m, all)
}

func TestPutByte(t *testing.T) { // P9.3, P9.7: from 768 to 5631
	all := filled(8192)
	m := Flat(all)
	for i, a := range places() {
		n := int64(i)*0x1234567 + 0x55
		if a < 768 || a > 5631 {
			mustThrow(t, "PutByte", a, m.PutByte(a, n), -9)
			continue
		}
		mustThrow(t, "PutByte", a, m.PutByte(a, n), 0)
		all[a] = byte(n)
		if got, _ := m.Byte(a); got != int64(byte(n)) {
			t.Fatal("behind PutByte of", n, "at", a, "there is", got)
		}
	}
	mustBe(t, m, all)
	for _, n := range append([]int64{127, 128, 511, 512, -255, -257}, numbers...) {
		m := Flat(filled(8192))
		mustThrow(t, "PutByte", 2000, m.PutByte(2000, n), 0)
		mustBe(t, m, laid(filled(8192), 2000, []byte{byte(n)}))
	}
}

func TestPutCell(t *testing.T) { // P9.3, P9.7: the base; from 768 on, all below 5632
	all := filled(8192)
	m := Flat(all)
	for i, a := range places() {
		n, want := int64(i)*0x123456789ABCDEF-77, 0
		switch {
		case a == 16:
		case a < 768 || a > 5624:
			want = -9
		case a%8 != 0:
			want = -23
		}
		mustThrow(t, "PutCell", a, m.PutCell(a, n), want)
		if want != 0 {
			continue
		}
		all = laid(all, int(a), cellBytes(n))
		if got, thrown := m.Cell(a); got != n || thrown != 0 {
			t.Fatal("behind PutCell of", n, "at", a, "there is", got, thrown)
		}
	}
	mustBe(t, m, all)
}

func TestWhatPutCellStores(t *testing.T) { // P9.3, P9.7: any number, and nothing beside it
	for _, a := range []int64{16, 768, 1016, 5624} {
		for _, n := range numbers {
			m := Flat(filled(8192))
			mustThrow(t, "PutCell", a, m.PutCell(a, n), 0)
			mustBe(t, m, laid(filled(8192), int(a), cellBytes(n)))
		}
	}
}

func TestThrowsChangeNothing(t *testing.T) { // P4
	all := filled(8192)
	m := Flat(all)
	for _, a := range append([]int64{-1, 0, 8, 15, 17, 24, 128, 256, 760, 766, 767, 5632, 5640, 6144, 6200, 8184, 8191}, far...) {
		mustThrow(t, "PutByte", a, m.PutByte(a, 0), -9)
		mustThrow(t, "PutCell", a, m.PutCell(a, 0), -9)
	}
	mustThrow(t, "PutByte", 16, m.PutByte(16, 0), -9)
	for _, a := range []int64{761, 767, 5625, 5631} {
		mustThrow(t, "PutCell", a, m.PutCell(a, 0), -9)
	}
	for _, a := range []int64{769, 775, 1001, 5617, 5623} {
		mustThrow(t, "PutCell", a, m.PutCell(a, 0), -23)
	}
	mustBe(t, m, all)
	if l := m.Dirty(); len(l) != 0 {
		t.Fatal("Dirty answers", l)
	}
}

func TestGet(t *testing.T) { // P9.4: bytes that there aren't count as 0
	all := filled(8192)
	m := Flat(all)
	for _, a := range places() {
		want := int64(0)
		if a > -8 && a < 8192 {
			want = cellAt(all, int(a))
		}
		if got := m.Get(int(a)); got != want {
			t.Fatal("Get at", a, "is", got, "want", want)
		}
	}
	mustBe(t, m, all)
}

func TestSet(t *testing.T) { // P9.4, P9.7: bytes that there aren't are lost
	m, all := Flat(filled(8192)), filled(8192)
	for i, a := range places() {
		n := int64(i)*0x123456789ABCDEF + 99
		m.Set(int(a), n)
		if a > -8 && a < 8192 {
			all = laid(all, int(a), cellBytes(n))
		}
		if a >= 0 && a <= 8184 && m.Get(int(a)) != n {
			t.Fatal("behind Set of", n, "at", a, "there is", m.Get(int(a)))
		}
	}
	mustBe(t, m, all)
	for _, a := range []int{-7, -1, 0, 60, 61, 8185, 8191} {
		for _, n := range numbers {
			m := Flat(filled(8192))
			m.Set(a, n)
			mustBe(t, m, laid(filled(8192), a, cellBytes(n)))
		}
	}
}

// lengths are those of ranges, at the bounds of pages and of the memory.
var lengths = []int{0, 1, 2, 8, 63, 64, 65, 128, 129, 4000, 8127, 8191, 8192}

// starts are places at which ranges begin, in the memory and on both sides of it.
func starts() []int {
	l := []int{-8193, -8192, -8191, -4000, -129, -128, -65, -64, -63, -2, -1, 0, 1, 2, 62, 63, 64, 65, 127, 128, 700, 4096, 6143, 8126, 8127, 8128, 8129, 8190, 8191, 8192, 8193}
	for _, a := range far {
		l = append(l, int(a))
	}
	return l
}

func TestLoad(t *testing.T) { // P9.4
	all := filled(8192)
	m := Flat(all)
	for _, a := range starts() {
		for _, n := range append([]int{math.MinInt, -8192, -1, 8193, 20000, 1 << 32, math.MaxInt}, lengths...) {
			if got := m.Load(a, n); !bytes.Equal(got, loaded(all, a, n)) {
				t.Fatal("Load of", n, "from", a, "answers", len(got), "bytes, or others")
			}
		}
	}
	mustBe(t, m, all)
}

func TestLay(t *testing.T) { // P9.4, P9.7
	for _, a := range starts() {
		for _, n := range append([]int{8193, 8256, 17000}, lengths...) {
			all, b := make([]byte, 8192), filled(n)
			m := Flat(nil)
			m.Lay(a, b)
			if a < 8192 && a > -17000 {
				all = laid(all, a, b)
			}
			mustBe(t, m, all)
			if !bytes.Equal(b, filled(n)) {
				t.Fatal("what Lay was given is changed")
			}
		}
		m := Flat(filled(8192))
		m.Lay(a, nil)
		m.Lay(a, []byte{})
		mustBe(t, m, filled(8192))
	}
}

func TestLayBesideOthers(t *testing.T) { // P9.7: the bytes ahead and behind stay
	for _, a := range []int{0, 1, 63, 64, 700, 6143, 8100} {
		for _, n := range []int{1, 3, 64, 65, 92} {
			m := Flat(filled(8192))
			m.Lay(a, make([]byte, n))
			mustBe(t, m, laid(filled(8192), a, make([]byte, n)))
		}
	}
}

func TestAnswersAreNewMemory(t *testing.T) { // P2
	m, all := Flat(filled(8192)), filled(8192)
	m.Lay(3, []byte{9, 9})
	all[3], all[4] = 9, 9
	clear(m.Bytes())
	for _, n := range []int{1, 64, 8192} {
		clear(m.Load(0, n))
		mustBe(t, m, all)
	}
	b := filled(300)
	m.Lay(5000, b)
	all = laid(all, 5000, b)
	clear(b)
	mustBe(t, m, all)
	m.Lay(100, filled(300)[:10]) // what lies behind the length isn't read
	mustBe(t, m, laid(all, 100, filled(10)))
	l := m.Dirty()
	clear(l)
	if slices.Equal(m.Dirty(), l) {
		t.Fatal("Dirty answers one list")
	}
}

func TestFlatHasNoStore(t *testing.T) { // P9.6: and what was changed stays
	m := Flat(filled(8192))
	m.PutCell(800, 5)
	for range 2 {
		if e := m.Sync(); e != api.ErrNone {
			t.Fatal("Sync answers", e)
		}
		if e := m.Renew(); e != api.ErrNone {
			t.Fatal("Renew answers", e)
		}
		mustBe(t, m, laid(filled(8192), 800, cellBytes(5)))
		mustBeDirty(t, m, 12)
	}
}

func mustBeDirty(t *testing.T, m *Mem, want ...int) {
	t.Helper()
	if got := m.Dirty(); !slices.Equal(got, want) {
		t.Fatal("Dirty answers", got, "want", want)
	}
}

func TestDirtyOfFlat(t *testing.T) { // P9.6: as to what Flat was given, cut or filled up
	m := Flat(filled(100))
	mustBeDirty(t, m)
	m.Bytes()
	mustBeDirty(t, m)
	m.Lay(8191, []byte{1})
	m.Lay(0, []byte{77})
	m.Lay(130, []byte{1, 2})
	mustBeDirty(t, m, 0, 2, 127)
	m.Lay(130, []byte{0, 0}) // as it was
	mustBeDirty(t, m, 0, 127)
	m.Lay(640, make([]byte, 640))
	mustBeDirty(t, m, 0, 127)
	m.Lay(63, []byte{5, 5})
	mustBeDirty(t, m, 0, 1, 127)
	m.Lay(0, filled(100))
	mustBeDirty(t, m, 127)
	m.Lay(0, bytes.Repeat([]byte{200}, 8192))
	want := []int{}
	for n := range 128 {
		want = append(want, n)
	}
	mustBeDirty(t, m, want...)
}
