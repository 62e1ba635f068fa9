package inode

import (
	"bytes"
	"math"
	"math/rand"
	"reflect"
	"slices"
	"strings"
	"testing"

	"carrel/api"
)

// edges are numbers at the bounds of sizes and blocks, and such that sums of them wrap round.
var edges = []int{math.MinInt, math.MinInt + 1, math.MinInt + 63, -1 << 32, -1<<32 + 64, -65536, -1472, -65, -64, -63, -1, 0, 1, 2, 63, 64, 65, 127, 128, 129, 255, 256, 257, 1407, 1408, 1409, 1471, 1472, 1473, 1536, 65535, 65536, 65537, 1 << 31, 1 << 32, 1<<32 + 1, math.MaxInt - 64, math.MaxInt - 63, math.MaxInt - 62, math.MaxInt - 1, math.MaxInt}

// list makes a list of extents of pairs of numbers.
func list(pairs ...int) []api.Extent {
	l := []api.Extent{}
	for i := 0; i+1 < len(pairs); i += 2 {
		l = append(l, api.Extent{Start: pairs[i], Len: pairs[i+1]})
	}
	return l
}

// apart is the longest list that may be: each block an extent of its own.
func apart() []api.Extent {
	l := []api.Extent{}
	for n := 31; n >= 9; n-- {
		l = append(l, api.Extent{Start: n, Len: 1})
	}
	return l
}

// good are inodes that may be, the edges among them.
func good() []api.Inode {
	return []api.Inode{
		{Name: "a"}, {Name: "!"}, {Name: "~", Size: 1, Ext: list(31, 1)},
		{Name: "a", Size: 1, Ext: list(9, 1)}, {Name: "a", Size: 64, Ext: list(9, 1)}, {Name: "a", Size: 65, Ext: list(9, 2)},
		{Name: "main.fs", Size: 300, Ext: list(20, 2, 9, 3)}, {Name: "fifteen-letters", Size: 256, Ext: list(12, 1, 10, 1, 30, 2)},
		{Name: "WHOLE", Size: 1472, Ext: list(9, 23)}, {Name: "apart", Size: 1409, Ext: apart()}, {Name: "!!!!!!!~~~~~~~~", Size: 1472, Ext: apart()},
	}
}

// blocksOf is the model of a list: how many blocks it has, and whether it may be.
func blocksOf(l []api.Extent) (int, bool) {
	seen := map[int]int{}
	for i, x := range l {
		if x.Start < 9 || x.Start > 31 || x.Len < 1 || x.Len > 23 || i > 0 && l[i-1].Start+l[i-1].Len == x.Start {
			return 0, false
		}
		for n := x.Start; n < x.Start+x.Len; n++ {
			seen[n]++
			if n > 31 || seen[n] > 1 {
				return 0, false
			}
		}
	}
	return len(seen), true
}

// isName is the model of names.
func isName(s string) bool {
	for i := 0; i < len(s); i++ {
		if s[i] < '!' || s[i] > '~' {
			return false
		}
	}
	return len(s) > 0 && len(s) < 16
}

// mayBe is the model of inodes.
func mayBe(x api.Inode) bool {
	many, fits := blocksOf(x.Ext)
	return fits && isName(x.Name) && x.Size >= 0 && x.Size <= 1472 && x.Size <= 64*many && x.Size > 64*(many-1)
}

// bytesOf is the model's way to bytes.
func bytesOf(x api.Inode) []byte {
	b := append([]byte{byte(len(x.Name))}, x.Name...)
	b = append(b, make([]byte, 16-len(b))...)
	b = append(b, byte(x.Size%256), byte(x.Size/256))
	for _, ext := range x.Ext {
		b = append(b, byte(ext.Start), byte(ext.Len))
	}
	return append(b, make([]byte, 64-len(b))...)
}

// inodeOf is the model's way back: by the fields of the record, one by one.
func inodeOf(b []byte) (api.Inode, bool) {
	if len(b) != 64 || b[0] > 15 {
		return api.Inode{}, false
	}
	x := api.Inode{Name: string(b[1 : 1+b[0]]), Size: int(b[16]) + 256*int(b[17])}
	pairs := b[18:]
	for len(pairs) > 0 && (pairs[0] != 0 || pairs[1] != 0) {
		x.Ext = append(x.Ext, api.Extent{Start: int(pairs[0]), Len: int(pairs[1])})
		pairs = pairs[2:]
	}
	rest := append(slices.Clone(b[1+b[0]:16]), pairs...)
	if len(bytes.Trim(rest, "\x00")) > 0 || !mayBe(x) {
		return api.Inode{}, false
	}
	return x, true
}

func same(x, y api.Inode) bool {
	return x.Name == y.Name && x.Size == y.Size && slices.Equal(x.Ext, y.Ext)
}

// mustBeAsModel holds Check and Encode of an inode against the model, and the way back.
func mustBeAsModel(t *testing.T, x api.Inode) {
	t.Helper()
	want, wantE := []byte(nil), api.ErrInode
	if mayBe(x) {
		want, wantE = bytesOf(x), api.OK
	}
	if e := Check(x); e != wantE {
		t.Fatal("Check of", x, "answers", e, "want", wantE)
	}
	b, e := Encode(x)
	if e != wantE || !bytes.Equal(b, want) {
		t.Fatal("Encode of", x, "answers", b, e, "want", want, wantE)
	}
	if wantE == api.OK {
		mustTell(t, b, x)
	}
}

// mustTell holds Decode against the inode that the bytes are.
func mustTell(t *testing.T, b []byte, want api.Inode) {
	t.Helper()
	if x, is, e := Decode(b); !same(x, want) || !is || e != api.OK {
		t.Fatal("Decode of", b, "answers", x, is, e, "want", want)
	}
}

// mustBeNone asks that bytes are neither an inode nor a free one.
func mustBeNone(t *testing.T, b []byte) {
	t.Helper()
	if x, is, e := Decode(b); !reflect.ValueOf(x).IsZero() || is || e != api.ErrInode {
		t.Fatal("Decode of", b, "answers", x, is, e)
	}
}

// mustDecodeAsModel holds Decode of bytes that aren't all noughts against the model.
func mustDecodeAsModel(t *testing.T, b []byte) bool {
	t.Helper()
	want, is := inodeOf(b)
	if !is {
		mustBeNone(t, b)
		return false
	}
	mustTell(t, b, want)
	if again, e := Encode(want); e != api.OK || !bytes.Equal(again, b) {
		t.Fatal("Encode of Decode of", b, "answers", again, e)
	}
	return true
}

// someInode makes one that may be: its blocks in any order.
func someInode(r *rand.Rand) api.Inode {
	name := make([]byte, 1+r.Intn(15))
	for i := range name {
		name[i] = byte(33 + r.Intn(94))
	}
	all := r.Perm(23)
	if r.Intn(2) == 0 {
		slices.Sort(all)
	}
	x := api.Inode{Name: string(name), Size: r.Intn(1473)}
	for _, n := range all[:(x.Size+63)/64] {
		if last := len(x.Ext) - 1; last >= 0 && x.Ext[last].Start+x.Ext[last].Len == n+9 {
			x.Ext[last].Len++
		} else {
			x.Ext = append(x.Ext, api.Extent{Start: n + 9, Len: 1})
		}
	}
	return x
}

func TestExampleOfTheChapter(t *testing.T) { // P11.3, P11.4
	if Need(65) != 2 {
		t.Fatal(Need(65))
	}
	want := make([]byte, 64)
	want[0], want[1], want[16], want[17], want[18], want[19] = 1, 97, 1, 0, 9, 1
	if b, e := Encode(api.Inode{Name: "a", Size: 1, Ext: list(9, 1)}); e != api.OK || !bytes.Equal(b, want) {
		t.Fatal(b, e)
	}
}

func TestNameLengths(t *testing.T) { // P11.1
	for n := range 300 {
		for _, c := range []string{"!", "a", "~"} {
			if Name(strings.Repeat(c, n)) != (n >= 1 && n <= 15) {
				t.Fatal(n, c)
			}
		}
	}
	for _, n := range []int{1 << 16, 1<<16 + 1, 1 << 20} {
		if Name(strings.Repeat("a", n)) {
			t.Fatal(n)
		}
	}
}

func TestNameBytes(t *testing.T) { // P11.1: each byte at each place
	for n := 1; n <= 15; n++ {
		for at := range n {
			for c := range 256 {
				b := bytes.Repeat([]byte{'k'}, n)
				b[at] = byte(c)
				if Name(string(b)) != (c >= 33 && c <= 126) {
					t.Fatal(n, at, c)
				}
			}
		}
	}
}

func TestNameOfTwoBytes(t *testing.T) { // P11.1: what two bytes are as a rune doesn't count
	for a := range 256 {
		for b := range 256 {
			if s := string([]byte{byte(a), byte(b)}); Name(s) != isName(s) {
				t.Fatal(a, b)
			}
		}
	}
}

func TestNameOfRunes(t *testing.T) { // P11.1
	for _, s := range []string{
		"é", "aé", "éa", "Ł", "š", "世", "a世b", "\U0001F600", "\U0010FFFF", "\uFFFD", "\xff", "a\xffb", "\xc1\xa1", "\xe0\x81\xa1", "\xf0\x80\x81\xa1",
		"\xed\xa0\x80", "\xe4\xb8", "世界世界世", "\x00", "a\x00", "\x00a", "a b", " a", "a ", "a\t", "a\n", "a\x7f", "\x7f", " ", "\u00a0", "\ufeffa",
	} {
		if Name(s) {
			t.Errorf("%q is taken", s)
		}
	}
	for _, s := range []string{"a", "A.FS", "..", "/", "\\", "a/b", "\"", "'", "-1", "~!@#$%^&*()_+{}", "0123456789:;<=>"} {
		if !Name(s) {
			t.Errorf("%q is refused", s)
		}
	}
}

func TestNeed(t *testing.T) { // P11.4
	blocks := 0
	for size := range 5000 {
		if size > 64*blocks {
			blocks++
		}
		if Need(size) != blocks {
			t.Fatal(size, Need(size))
		}
	}
	for _, n := range []int{math.MinInt, math.MinInt + 1, -1 << 32, -129, -128, -65, -64, -63, -2, -1} {
		if Need(n) != 0 {
			t.Fatal(n, Need(n))
		}
	}
}

func TestNeedOfGreatSizes(t *testing.T) { // P11.4, P1: sums may not wrap round
	for size, want := range map[int]int{
		1472: 23, 1473: 24, 1 << 32: 1 << 26, 1<<32 + 1: 1<<26 + 1, math.MaxInt: 1 << 57, math.MaxInt - 62: 1 << 57, math.MaxInt - 63: 1<<57 - 1, math.MaxInt - 64: 1<<57 - 1,
	} {
		if Need(size) != want {
			t.Fatal(size, Need(size), want)
		}
	}
}

func TestCheckTakes(t *testing.T) { // P11.2
	for _, x := range good() {
		if Check(x) != api.OK || !mayBe(x) {
			t.Error(x, "is refused")
		}
		mustBeAsModel(t, x)
	}
	mustBeAsModel(t, api.Inode{Name: "a", Ext: nil})
	mustBeAsModel(t, api.Inode{Name: "a", Ext: []api.Extent{}})
}

func TestCheckOfNames(t *testing.T) { // P11.2
	for _, s := range []string{"", " ", "a b", "\x7f", "é", "\x00", "a\x00", "sixteen-letters!", strings.Repeat("a", 256), strings.Repeat("a", 257)} {
		for _, x := range good() {
			x.Name = s
			if Check(x) != api.ErrInode {
				t.Errorf("%q is taken", s)
			}
			mustBeAsModel(t, x)
		}
	}
}

func TestCheckOfSizes(t *testing.T) { // P11.2: just Need blocks, no more and no fewer
	all := append(slices.Clone(edges), 3, 320, 1400, 1410)
	for n := range 2000 {
		all = append(all, n)
	}
	for many := range 24 {
		l := apart()[:many]
		for _, size := range all {
			x := api.Inode{Name: "f", Size: size, Ext: l}
			fits := size >= 0 && size <= 1472 && (size+63)/64 == many
			if (Check(x) == api.OK) != fits {
				t.Fatal(many, size, Check(x))
			}
			mustBeAsModel(t, x)
		}
	}
}

func TestCheckOfExtents(t *testing.T) { // P11.2
	for _, l := range [][]api.Extent{
		list(8, 1), list(32, 1), list(31, 2), list(9, 24), list(9, 0), list(9, -1), list(0, 0), list(0, 1), list(-1, 1), list(9+256, 1), list(9, 257),
		list(9, 1, 9, 1), list(9, 3, 11, 1), list(9, 1, 10, 1), list(12, 1, 9, 1, 10, 2), list(9, 1, 11, 0), list(9, 1, 0, 0), list(0, 0, 9, 1),
		list(math.MaxInt, 1), list(9, math.MaxInt), list(math.MinInt, math.MinInt), list(math.MaxInt, math.MaxInt), list(9, -1, 9, 1), append(apart(), api.Extent{Start: 9, Len: 1}), append(apart(), api.Extent{}),
	} {
		for _, size := range edges {
			x := api.Inode{Name: "f", Size: size, Ext: l}
			if Check(x) != api.ErrInode {
				t.Fatal(x, "is taken")
			}
			mustBeAsModel(t, x)
		}
	}
}

func TestOfManyExtents(t *testing.T) { // P11.2, P11.3, P1: more than the bytes have room for
	l := make([]api.Extent, 100000)
	for i := range l {
		l[i] = api.Extent{Start: 9 + i%23, Len: 1}
	}
	for _, n := range []int{22, 23, 24, 25, 100, 1472, len(l)} {
		for _, size := range edges {
			mustBeAsModel(t, api.Inode{Name: "f", Size: size, Ext: l[:n]})
		}
	}
}

func TestEncode(t *testing.T) { // P11.3
	want := make([]byte, 64)
	copy(want, "\x0ffifteen-letters\x00\x01\x0c\x01\x0a\x01\x1e\x02")
	if b, e := Encode(api.Inode{Name: "fifteen-letters", Size: 256, Ext: list(12, 1, 10, 1, 30, 2)}); e != api.OK || !bytes.Equal(b, want) {
		t.Fatal(b, e)
	}
	b, e := Encode(api.Inode{Name: "ab", Size: 1472, Ext: apart()})
	if e != api.OK || string(b[:3]) != "\x02ab" || b[16] != 0xc0 || b[17] != 5 || b[18] != 31 || b[19] != 1 || b[62] != 9 || b[63] != 1 {
		t.Fatal(b, e)
	}
}

func TestThereAndBack(t *testing.T) { // P11.5
	r := rand.New(rand.NewSource(1))
	for range 20000 {
		x := someInode(r)
		if Check(x) != api.OK {
			t.Fatal(x)
		}
		mustBeAsModel(t, x)
		mustDecodeAsModel(t, bytesOf(x))
	}
}

func TestDecodeOfNoughts(t *testing.T) { // P11.3
	for n := range 200 {
		b := make([]byte, n)
		if n != 64 {
			mustBeNone(t, b)
			continue
		}
		if x, is, e := Decode(b); !reflect.ValueOf(x).IsZero() || is || e != api.OK {
			t.Fatal(x, is, e)
		}
	}
	mustBeNone(t, nil)
}

func TestDecodeOfOneByte(t *testing.T) { // P11.3: noughts but for one byte are nothing
	for at := range 64 {
		for c := 1; c < 256; c++ {
			b := make([]byte, 64)
			b[at] = byte(c)
			mustBeNone(t, b)
		}
	}
}

func TestDecodeOfLengths(t *testing.T) { // P11.3
	for _, x := range good() {
		b := append(bytesOf(x), make([]byte, 100)...)
		for n := range len(b) {
			if n != 64 {
				mustBeNone(t, b[:n])
			}
		}
		mustTell(t, b[:64], x)
	}
}

func TestDecodeOfOneByteChanged(t *testing.T) { // P11.3
	for _, x := range good() {
		for at := range 64 {
			for c := range 256 {
				b := bytesOf(x)
				b[at] = byte(c)
				mustDecodeAsModel(t, b)
			}
		}
	}
}

func TestDecodeOfWrongBytes(t *testing.T) { // P11.3
	put := func(x api.Inode, at int, s string) []byte {
		b := bytesOf(x)
		copy(b[at:], s)
		return b
	}
	free, one, two := api.Inode{Name: "a"}, api.Inode{Name: "a", Size: 1, Ext: list(9, 1)}, api.Inode{Name: "ab", Size: 65, Ext: list(9, 2)}
	for i, b := range [][]byte{
		put(free, 0, "\x00"), put(one, 0, "\x00\x00"), put(one, 0, "\x00"), put(one, 0, "\x02"), put(two, 0, "\x01"), put(two, 0, "\x10"), put(two, 0, "\xff"),
		put(one, 1, " "), put(one, 1, "\x80"), put(one, 2, "b"), put(one, 15, "b"), put(two, 1, "\x00"), put(two, 2, "\x7f"),
		put(free, 16, "\x01"), put(one, 16, "\x00"), put(one, 16, "\x41"), put(one, 17, "\x01"), put(two, 16, "\x40"), put(two, 16, "\x81"), put(free, 16, "\xc1\x05"), put(free, 16, "\x00\x80"),
		put(free, 18, "\x09\x01"), put(free, 18, "\x09\x00"), put(free, 18, "\x00\x01"), put(free, 20, "\x09\x01"), put(free, 63, "\x01"),
		put(one, 18, "\x08"), put(one, 18, "\x20"), put(one, 19, "\x00"), put(one, 19, "\x02"), put(one, 20, "\x0b\x01"), put(one, 20, "\x0b\x00"), put(one, 20, "\x00\x01"), put(one, 22, "\x0b\x01"), put(one, 62, "\x0b\x01"), put(one, 63, "\x01"),
		put(two, 18, "\x09\x01\x0a\x01"), put(two, 18, "\x09\x01\x09\x01"), put(two, 18, "\x00\x00\x09\x02"), put(two, 18, "\x09\x01\x00\x00\x0b\x01"), put(two, 18, "\x1f\x02"),
	} {
		if _, is := inodeOf(b); is {
			t.Error(i, "is an inode")
		}
		mustBeNone(t, b)
	}
	mustTell(t, put(one, 18, "\x0a"), api.Inode{Name: "a", Size: 1, Ext: list(10, 1)})
	mustTell(t, put(two, 18, "\x0b\x01\x09\x01"), api.Inode{Name: "ab", Size: 65, Ext: list(11, 1, 9, 1)})
}

func TestDecodeAsModel(t *testing.T) { // P11.3, P11.5
	r := rand.New(rand.NewSource(2))
	inodes := 0
	for range 50000 {
		b := bytesOf(someInode(r))
		for range 1 + r.Intn(3) {
			at := r.Intn(64)
			b[at] = byte(max(0, int(b[at])+r.Intn(5)-2))
		}
		if b[0] > 0 && mustDecodeAsModel(t, b) {
			inodes++
		}
	}
	for range 5000 {
		b := make([]byte, r.Intn(130))
		r.Read(b)
		mustDecodeAsModel(t, b)
	}
	if inodes < 1000 || inodes > 49000 {
		t.Fatal("of too few kinds:", inodes)
	}
}

func TestNewMemory(t *testing.T) { // P2
	mem := list(20, 2, 10, 1, 7, 7)
	x := api.Inode{Name: "f", Size: 150, Ext: mem[:2]}
	b, _ := Encode(x)
	again, _ := Encode(x)
	for i := range b {
		b[i] = 99
	}
	if !bytes.Equal(again, bytesOf(x)) || !slices.Equal(mem, list(20, 2, 10, 1, 7, 7)) {
		t.Fatal("memory is shared:", again, mem)
	}
	record := append(again, 1, 2, 3)
	given := slices.Clone(record)
	y, _, _ := Decode(record[:64])
	z, _, _ := Decode(record[:64])
	y.Ext[0].Len = 99
	if !bytes.Equal(record, given) || !same(z, x) {
		t.Fatal("memory is shared:", record, z)
	}
	clear(record)
	if !same(z, x) {
		t.Fatal("the answer hangs on the bytes:", z)
	}
}

func TestArgumentsStay(t *testing.T) { // P2
	for _, x := range append(good(), api.Inode{Name: "", Size: -1, Ext: list(9, 1, 10, 1)}) {
		was := slices.Clone(x.Ext)
		Check(x)
		Encode(x)
		if !slices.Equal(x.Ext, was) {
			t.Fatal(x, was)
		}
	}
}
