package le

import (
	"bytes"
	"hash/crc32"
	"math"
	"testing"
)

// places are those that the tests of P1.1 and P1.2 go through, for bytes of length n.
func places(n int) []int {
	l := []int{math.MinInt, math.MinInt + 1, math.MinInt + 7, -1 << 31, -1 << 32, math.MaxInt - 8, math.MaxInt - 7, math.MaxInt - 1, math.MaxInt, 1 << 31, 1 << 32}
	for at := -10; at <= n+2; at++ {
		l = append(l, at)
	}
	return l
}

var sizes = []int{math.MinInt, -9, -1, 0, 1, 2, 3, 4, 5, 6, 7, 8, 9, 64, math.MaxInt}

// run is n bytes no two of which are alike, in a slice with other bytes behind its length.
func run(n int) []byte {
	b := make([]byte, n+16)
	for i := range b {
		b[i] = byte(0x81 + i*7)
	}
	return b[:n]
}

// bytesAt tells for each of the size bytes from at on its place in b, or -1; it adds without wrapping.
func bytesAt(n, at, size int) []int {
	size = min(max(size, 0), 8)
	l := make([]int, size)
	for i := range l {
		l[i] = -1
		if at >= -8 && at < n && at+i >= 0 && at+i < n {
			l[i] = at + i
		}
	}
	return l
}

func wantNum(b []byte, at, size int) uint64 {
	n, unit := uint64(0), uint64(1)
	for _, p := range bytesAt(len(b), at, size) {
		if p >= 0 {
			n += uint64(b[p]) * unit
		}
		unit *= 256
	}
	return n
}

func wantPut(b []byte, at, size int, n uint64) []byte {
	out := append([]byte{}, b...)
	for _, p := range bytesAt(len(b), at, size) {
		if p >= 0 {
			out[p] = byte(n % 256)
		}
		n /= 256
	}
	return out
}

// whole is b with what lies behind its length, to tell whether a call changed any of it.
func whole(b []byte) []byte { return append([]byte{}, b[:cap(b)]...) }

func mustKeep(t *testing.T, name string, b, before []byte) {
	t.Helper()
	if !bytes.Equal(b[:cap(b)], before) {
		t.Fatal(name, "changed what it was given:", b[:cap(b)], "was", before)
	}
}

// mustBeNew holds out against b and then overwrites it: b must not follow.
func mustBeNew(t *testing.T, name string, out, b []byte) {
	t.Helper()
	before := whole(b)
	room := out[:cap(out)]
	for i := range room {
		if i >= len(out) && room[i] != 0 {
			t.Fatal(name, "hands out bytes behind its answer")
		}
		room[i] ^= 0xFF
	}
	mustKeep(t, name, b, before)
}

func TestCellOrdinary(t *testing.T) { // P1.1
	cases := []struct {
		b    []byte
		at   int
		want int64
	}{
		{[]byte{1, 0, 0, 0, 0, 0, 0, 128}, 0, math.MinInt64 + 1},
		{[]byte{1, 2, 3, 4, 5, 6, 7, 8}, 0, 0x0807060504030201},
		{[]byte{255, 255, 255, 255, 255, 255, 255, 255}, 0, -1},
		{[]byte{254, 255, 255, 255, 255, 255, 255, 255}, 0, -2},
		{[]byte{255, 255, 255, 255, 255, 255, 255, 127}, 0, math.MaxInt64},
		{[]byte{9, 9, 1, 2, 3, 4, 5, 6, 7, 8, 9}, 2, 0x0807060504030201},
	}
	for _, c := range cases {
		if got := Cell(c.b, c.at); got != c.want {
			t.Errorf("Cell(%v, %d) = %d, want %d", c.b, c.at, got, c.want)
		}
	}
}

func TestCellEdges(t *testing.T) { // P1.1: bytes that there aren't count as 0
	b := []byte{1, 2, 3}
	cases := []struct {
		at   int
		want int64
	}{
		{0, 0x030201}, {2, 3}, {3, 0}, {4, 0}, {-1, 0x03020100}, {-5, 0x0302010000000000}, {-6, 0x0201000000000000}, {-7, 0x0100000000000000}, {-8, 0},
		{math.MinInt, 0}, {math.MaxInt, 0}, {math.MaxInt - 7, 0},
	}
	for _, c := range cases {
		if got := Cell(b, c.at); got != c.want {
			t.Errorf("Cell(%v, %d) = %x, want %x", b, c.at, got, c.want)
		}
	}
	for _, at := range places(0) {
		if Cell(nil, at) != 0 || Cell([]byte{}, at) != 0 {
			t.Error("Cell of no bytes at", at)
		}
	}
}

func TestPutCellOrdinary(t *testing.T) { // P1.1
	b := []byte{9, 9, 9, 9, 9, 9, 9, 9, 9, 9}
	cases := []struct {
		at   int
		n    int64
		want []byte
	}{
		{0, 0x0807060504030201, []byte{1, 2, 3, 4, 5, 6, 7, 8, 9, 9}},
		{1, -2, []byte{9, 254, 255, 255, 255, 255, 255, 255, 255, 9}},
		{2, math.MinInt64, []byte{9, 9, 0, 0, 0, 0, 0, 0, 0, 128}},
		{5, 0x0807060504030201, []byte{9, 9, 9, 9, 9, 1, 2, 3, 4, 5}},
		{9, 0x0807060504030201, []byte{9, 9, 9, 9, 9, 9, 9, 9, 9, 1}},
		{10, 1, b}, {11, 1, b},
		{-1, 0x0807060504030201, []byte{2, 3, 4, 5, 6, 7, 8, 9, 9, 9}},
		{-7, 0x0807060504030201, []byte{8, 9, 9, 9, 9, 9, 9, 9, 9, 9}},
		{-8, 1, b}, {math.MinInt, -1, b}, {math.MaxInt, -1, b}, {math.MaxInt - 3, -1, b},
	}
	for _, c := range cases {
		if got := PutCell(b, c.at, c.n); !bytes.Equal(got, c.want) {
			t.Errorf("PutCell at %d of %x = %v, want %v", c.at, c.n, got, c.want)
		}
	}
}

func TestNumbersAtAllPlacesAndSizes(t *testing.T) { // P1.1, P1.2
	const n = uint64(0xF1E2D3C4B5A69788)
	for _, length := range []int{0, 1, 2, 7, 8, 9, 20} {
		b := run(length)
		for _, at := range places(length) {
			if got, want := Cell(b, at), int64(wantNum(b, at, 8)); got != want {
				t.Fatalf("Cell of %d bytes at %d = %x, want %x", length, at, got, want)
			}
			for _, size := range sizes {
				if got, want := Num(b, at, size), wantNum(b, at, size); got != want {
					t.Fatalf("Num of %d bytes at %d, size %d = %x, want %x", length, at, size, got, want)
				}
				if got, want := PutNum(b, at, size, n), wantPut(b, at, size, n); !bytes.Equal(got, want) {
					t.Fatalf("PutNum of %d bytes at %d, size %d = %v, want %v", length, at, size, got, want)
				}
			}
		}
	}
}

func TestNumSizes(t *testing.T) { // P1.2: below 0 counts as 0, above 8 as 8
	b := []byte{1, 2, 3, 4, 5, 6, 7, 8, 9, 10}
	cases := []struct {
		size int
		want uint64
	}{
		{math.MinInt, 0}, {-1, 0}, {0, 0}, {1, 2}, {2, 0x0302}, {3, 0x040302}, {7, 0x08070605040302}, {8, 0x0908070605040302}, {9, 0x0908070605040302}, {math.MaxInt, 0x0908070605040302},
	}
	for _, c := range cases {
		if got := Num(b, 1, c.size); got != c.want {
			t.Errorf("Num at 1, size %d = %x, want %x", c.size, got, c.want)
		}
	}
	if got := Num([]byte{255, 255, 255, 255, 255, 255, 255, 255}, 0, 8); got != math.MaxUint64 {
		t.Error("Num has a sign:", got)
	}
}

func TestPutNumSizes(t *testing.T) { // P1.2
	b := []byte{9, 9, 9, 9, 9, 9, 9, 9, 9, 9}
	n := uint64(0x0807060504030201)
	cases := []struct {
		size int
		want []byte
	}{
		{math.MinInt, b}, {-1, b}, {0, b},
		{1, []byte{9, 1, 9, 9, 9, 9, 9, 9, 9, 9}},
		{2, []byte{9, 1, 2, 9, 9, 9, 9, 9, 9, 9}},
		{7, []byte{9, 1, 2, 3, 4, 5, 6, 7, 9, 9}},
		{8, []byte{9, 1, 2, 3, 4, 5, 6, 7, 8, 9}},
		{9, []byte{9, 1, 2, 3, 4, 5, 6, 7, 8, 9}},
		{math.MaxInt, []byte{9, 1, 2, 3, 4, 5, 6, 7, 8, 9}},
	}
	for _, c := range cases {
		if got := PutNum(b, 1, c.size, n); !bytes.Equal(got, c.want) {
			t.Errorf("PutNum at 1, size %d = %v, want %v", c.size, got, c.want)
		}
	}
}

func TestPutIntoNoBytes(t *testing.T) { // P1.1, P1.2, P3
	for _, b := range [][]byte{nil, {}} {
		for _, at := range places(0) {
			if len(PutCell(b, at, -1)) != 0 || len(PutNum(b, at, 4, 1)) != 0 {
				t.Fatal("bytes out of none at", at)
			}
		}
	}
}

func TestPutIsNewMemory(t *testing.T) { // P2
	for _, length := range []int{1, 8, 20} {
		b := run(length)
		before := whole(b)
		for _, at := range places(length) {
			cell, num := PutCell(b, at, -1), PutNum(b, at, 3, 0)
			mustKeep(t, "PutCell or PutNum", b, before)
			mustBeNew(t, "PutCell", cell, b)
			mustBeNew(t, "PutNum", num, b)
		}
	}
}

func TestCrcKnown(t *testing.T) { // P1.3
	cases := []struct {
		s    string
		want uint32
	}{
		{"123456789", 0xCBF43926}, {"", 0}, {"\x00", 0xD202EF8D}, {"\xFF", 0xFF000000}, {"a", 0xE8B7BE43},
		{"The quick brown fox jumps over the lazy dog", 0x414FA339},
	}
	for _, c := range cases {
		if got := Crc([]byte(c.s)); got != c.want {
			t.Errorf("Crc(%q) = %08X, want %08X", c.s, got, c.want)
		}
	}
	if Crc(nil) != 0 {
		t.Error("Crc of nil")
	}
}

func TestCrcOfMany(t *testing.T) { // P1.3, P2
	for v := range 256 {
		b := []byte{byte(v)}
		if Crc(b) != crc32.ChecksumIEEE(b) {
			t.Fatal("Crc of byte", v)
		}
	}
	for length := range 300 {
		b := run(length)
		before := whole(b)
		if Crc(b) != crc32.ChecksumIEEE(b) {
			t.Fatal("Crc of", length, "bytes")
		}
		mustKeep(t, "Crc", b, before)
	}
}

func TestMixCuts(t *testing.T) { // P1.4
	cases := []struct {
		a, b string
		cut  int
		head bool
		want string
	}{
		{"abcd", "wxyz", 0, true, "wxyz"}, {"abcd", "wxyz", 1, true, "axyz"}, {"abcd", "wxyz", 3, true, "abcz"}, {"abcd", "wxyz", 4, true, "abcd"},
		{"abcd", "wxyz", 0, false, "abcd"}, {"abcd", "wxyz", 1, false, "wbcd"}, {"abcd", "wxyz", 3, false, "wxyd"}, {"abcd", "wxyz", 4, false, "wxyz"},
		{"abcd", "wxyz", -1, true, "wxyz"}, {"abcd", "wxyz", math.MinInt, true, "wxyz"}, {"abcd", "wxyz", -1, false, "abcd"}, {"abcd", "wxyz", math.MinInt, false, "abcd"},
		{"abcd", "wxyz", 5, true, "abcd"}, {"abcd", "wxyz", math.MaxInt, true, "abcd"}, {"abcd", "wxyz", 5, false, "wxyz"}, {"abcd", "wxyz", math.MaxInt, false, "wxyz"},
		{"abcd", "xy", 1, true, "ay\x00\x00"}, {"abcd", "xy", 3, true, "abc\x00"}, {"abcd", "xy", 3, false, "xy\x00d"}, {"abcd", "xy", 1, false, "xbcd"}, {"abcd", "xy", 9, false, "xy\x00\x00"},
		{"abcd", "", 2, true, "ab\x00\x00"}, {"abcd", "", 2, false, "\x00\x00cd"},
		{"ab", "wxyz", 1, true, "ax"}, {"ab", "wxyz", 1, false, "wb"}, {"ab", "wxyz", 3, false, "wx"}, {"ab", "wxyz", -3, true, "wx"},
		{"", "wxyz", 2, true, ""}, {"", "wxyz", 2, false, ""}, {"", "", 1, true, ""},
	}
	for _, c := range cases {
		if got := string(Mix([]byte(c.a), []byte(c.b), c.cut, c.head)); got != c.want {
			t.Errorf("Mix(%q, %q, %d, %v) = %q, want %q", c.a, c.b, c.cut, c.head, got, c.want)
		}
	}
}

func TestMixOfNil(t *testing.T) { // P1.4, P3
	for _, head := range []bool{false, true} {
		if len(Mix(nil, []byte("xy"), 1, head)) != 0 || len(Mix(nil, nil, 1, head)) != 0 {
			t.Error("bytes out of none, head", head)
		}
		if got, want := Mix([]byte("ab"), nil, 1, head), Mix([]byte("ab"), []byte{}, 1, head); !bytes.Equal(got, want) {
			t.Error("nil and empty differ:", got, want)
		}
	}
}

func TestMixIsNewMemory(t *testing.T) { // P2
	short, long := run(5), run(9)
	for _, pair := range [][2][]byte{{short, long}, {long, short}, {long, long}} {
		a, b := pair[0], pair[1]
		wasA, wasB := whole(a), whole(b)
		for _, cut := range []int{-1, 0, 3, 5, 9, 20} {
			for _, head := range []bool{false, true} {
				out := Mix(a, b, cut, head)
				if len(out) != len(a) {
					t.Fatal("Mix answers", len(out), "bytes for", len(a))
				}
				mustKeep(t, "Mix", a, wasA)
				mustKeep(t, "Mix", b, wasB)
				mustBeNew(t, "Mix", out, a)
				mustKeep(t, "Mix", b, wasB)
			}
		}
	}
	if got := Mix(long, short, 0, true); !bytes.Equal(got[5:], make([]byte, 4)) {
		t.Error("Mix reads behind b's length:", got)
	}
}

func TestThereAndBack(t *testing.T) { // P1.5
	b := run(24)
	for _, n := range []int64{0, 1, -1, 255, 256, 1 << 31, -1 << 31, math.MaxInt64, math.MinInt64, 0x0123456789ABCDEF} {
		for at := 0; at+8 <= len(b); at++ {
			out := PutCell(b, at, n)
			if got := Cell(out, at); got != n {
				t.Fatalf("at %d: laid %d, told %d", at, n, got)
			}
			if len(out) != len(b) || !bytes.Equal(out[:at], b[:at]) || !bytes.Equal(out[at+8:], b[at+8:]) {
				t.Fatal("bytes elsewhere changed at", at, out, b)
			}
			for size := range 9 {
				told := Num(PutNum(b, at, size, uint64(n)), at, size)
				if want := uint64(n) & (1<<(8*size) - 1); told != want {
					t.Fatalf("at %d, size %d: told %x, want %x", at, size, told, want)
				}
			}
		}
	}
}
