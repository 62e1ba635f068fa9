package root

import (
	"bytes"
	"encoding/binary"
	"hash/crc32"
	"math"
	"math/rand"
	"slices"
	"testing"

	"carrel/api"
)

const top = math.MaxUint64

// seal lays the check sum of b's first 60 bytes behind them.
func seal(b []byte) []byte {
	binary.LittleEndian.PutUint32(b[60:], crc32.ChecksumIEEE(b[:60]))
	return b
}

// lay is a record told by the chapter's words, whether it may be or not: of more than four checkpoints it tells the number alone.
func lay(r api.Root) []byte {
	b := []byte{0x43, 0x41, 0x52, 0x4C}
	b = binary.LittleEndian.AppendUint64(b, r.Gen)
	b = binary.LittleEndian.AppendUint16(b, uint16(len(r.Snaps)))
	for _, s := range r.Snaps[:min(len(r.Snaps), 4)] {
		b = binary.LittleEndian.AppendUint64(b, s.Gen)
		b = binary.LittleEndian.AppendUint16(b, uint16(s.Top))
	}
	return seal(append(b, make([]byte, 64-len(b))...))
}

func rootOf(gen uint64, snaps ...api.Snap) api.Root { return api.Root{Gen: gen, Snaps: snaps} }

func same(a, b api.Root) bool { return a.Gen == b.Gen && slices.Equal(a.Snaps, b.Snaps) }

func isZero(r api.Root) bool { return r.Gen == 0 && r.Snaps == nil }

// good are roots that may be, the edges among them.
func good() []api.Root {
	return []api.Root{
		rootOf(2, api.Snap{Gen: 2, Top: 9}),
		rootOf(1, api.Snap{Gen: 1, Top: 0}),
		rootOf(0, api.Snap{}),
		rootOf(9, api.Snap{Gen: 0, Top: 2}),
		rootOf(top, api.Snap{Gen: top, Top: 1999}),
		rootOf(top, api.Snap{Gen: 0, Top: 1998}, api.Snap{Gen: top, Top: 2}),
		rootOf(7, api.Snap{Gen: 3, Top: 5}, api.Snap{Gen: 4, Top: 5}, api.Snap{Gen: 6, Top: 0}),
		rootOf(0x0807060504030201, api.Snap{Gen: 0x0101010101010101, Top: 0x0702}, api.Snap{Gen: 0x0201010101010101, Top: 255}, api.Snap{Gen: 0x0301010101010101, Top: 256}, api.Snap{Gen: 0x0807060504030201, Top: 1999}),
		rootOf(4, api.Snap{Gen: 1, Top: 0}, api.Snap{Gen: 2, Top: 0}, api.Snap{Gen: 3, Top: 0}, api.Snap{Gen: 4, Top: 0}),
		rootOf(1<<63, api.Snap{Gen: 1<<63 - 1, Top: 3}, api.Snap{Gen: 1 << 63, Top: 4}),
	}
}

// bad are roots that may not be; each Top of them has two bytes.
func bad() map[string]api.Root {
	return map[string]api.Root{
		"no checkpoint":           rootOf(3),
		"five checkpoints":        rootOf(9, api.Snap{Gen: 1, Top: 2}, api.Snap{Gen: 2, Top: 2}, api.Snap{Gen: 3, Top: 2}, api.Snap{Gen: 4, Top: 2}, api.Snap{Gen: 5, Top: 2}),
		"many checkpoints":        rootOf(9, make([]api.Snap, 65535)...),
		"Top 1":                   rootOf(2, api.Snap{Gen: 2, Top: 1}),
		"Top 1, not the last":     rootOf(2, api.Snap{Gen: 1, Top: 1}, api.Snap{Gen: 2, Top: 9}),
		"Top 1, the last of four": rootOf(4, api.Snap{Gen: 1, Top: 2}, api.Snap{Gen: 2, Top: 2}, api.Snap{Gen: 3, Top: 2}, api.Snap{Gen: 4, Top: 1}),
		"Top 2000":                rootOf(2, api.Snap{Gen: 2, Top: 2000}),
		"Top 65535":               rootOf(2, api.Snap{Gen: 2, Top: 65535}),
		"one Gen twice":           rootOf(2, api.Snap{Gen: 2, Top: 3}, api.Snap{Gen: 2, Top: 4}),
		"a Gen that falls":        rootOf(3, api.Snap{Gen: 2, Top: 3}, api.Snap{Gen: 1, Top: 4}),
		"a Gen that falls late":   rootOf(9, api.Snap{Gen: 1, Top: 3}, api.Snap{Gen: 5, Top: 4}, api.Snap{Gen: 6, Top: 4}, api.Snap{Gen: 5, Top: 4}),
		"a Gen that falls to 0":   rootOf(top, api.Snap{Gen: top, Top: 3}, api.Snap{Gen: 0, Top: 4}),
		"the last Gen above":      rootOf(2, api.Snap{Gen: 3, Top: 9}),
		"the last of two above":   rootOf(2, api.Snap{Gen: 2, Top: 9}, api.Snap{Gen: 3, Top: 9}),
		"a Gen far above":         rootOf(0, api.Snap{Gen: top, Top: 9}),
	}
}

func mustEncode(t *testing.T, r api.Root) []byte {
	t.Helper()
	b, e := Encode(r)
	if e != api.OK || len(b) != api.PageSize {
		t.Fatal("Encode", r, "answers", b, e)
	}
	return b
}

func mustBeNone(t *testing.T, what string, b []byte) {
	t.Helper()
	if r, e := Decode(b); e != api.ErrRoot || !isZero(r) {
		t.Fatalf("%s: Decode(%v) = %v, %d", what, b, r, e)
	}
}

func TestExampleOfTheChapter(t *testing.T) { // P3.1
	b := mustEncode(t, rootOf(2, api.Snap{Gen: 2, Top: 9}))
	if !bytes.Equal(b[14:22], []byte{2, 0, 0, 0, 0, 0, 0, 0}) || b[22] != 9 {
		t.Fatal(b)
	}
}

func TestEncodeByteByByte(t *testing.T) { // P3.1
	b := mustEncode(t, rootOf(0x1817161514131211, api.Snap{Gen: 0x0807060504030201, Top: 0x0732}, api.Snap{Gen: 0x1817161514131210, Top: 2}))
	want := []byte{
		0x43, 0x41, 0x52, 0x4C,
		0x11, 0x12, 0x13, 0x14, 0x15, 0x16, 0x17, 0x18,
		2, 0,
		1, 2, 3, 4, 5, 6, 7, 8, 0x32, 0x07,
		0x10, 0x12, 0x13, 0x14, 0x15, 0x16, 0x17, 0x18, 2, 0,
	}
	want = append(want, make([]byte, 26)...)
	sum := crc32.ChecksumIEEE(want)
	want = append(want, byte(sum), byte(sum>>8), byte(sum>>16), byte(sum>>24))
	if !bytes.Equal(b, want) {
		t.Fatal(b, want)
	}
}

func TestEncodeOfRootsThatMayBe(t *testing.T) { // P3.1
	for _, r := range good() {
		if b := mustEncode(t, r); !bytes.Equal(b, lay(r)) {
			t.Error("Encode", r, "answers", b, "want", lay(r))
		}
	}
}

func TestEncodeOfRootsThatMayNotBe(t *testing.T) { // P3.1, P4
	list := bad()
	list["nil"] = api.Root{}
	list["empty"] = api.Root{Gen: 1, Snaps: []api.Snap{}}
	for _, n := range []int{math.MinInt, -1 << 32, -65536 + 9, -1999, -2, -1, 1, 2000, 2001, 65535, 65536, 65536 + 9, 1 << 32, math.MaxInt} {
		list["Top"] = rootOf(2, api.Snap{Gen: 2, Top: n})
		list["first Top"] = rootOf(2, api.Snap{Gen: 1, Top: n}, api.Snap{Gen: 2})
		for name, r := range list {
			if b, e := Encode(r); e != api.ErrRange || b != nil {
				t.Fatal(name, n, "answers", b, e)
			}
		}
	}
}

func TestEncodeAtAllTops(t *testing.T) { // P3.1
	for n := -3; n < 2100; n++ {
		want := api.OK
		if n < 0 || n == 1 || n > 1999 {
			want = api.ErrRange
		}
		if _, e := Encode(rootOf(5, api.Snap{Gen: 4, Top: 7}, api.Snap{Gen: 5, Top: n})); e != want {
			t.Fatal("Top", n, "answers", e, "want", want)
		}
	}
}

func TestEncodeLeavesItsRoot(t *testing.T) { // P2
	all := []api.Snap{{Gen: 1, Top: 2}, {Gen: 2, Top: 3}, {Gen: 9, Top: 1}, {Gen: 1, Top: -5}, {}}
	kept := slices.Clone(all)
	r := api.Root{Gen: 5, Snaps: all[:2]}
	a := mustEncode(t, r)
	if !bytes.Equal(a, lay(rootOf(5, api.Snap{Gen: 1, Top: 2}, api.Snap{Gen: 2, Top: 3}))) {
		t.Fatal("Encode reads behind the list's length:", a)
	}
	if !slices.Equal(all, kept) {
		t.Fatal("Encode changed its root:", all)
	}
	clear(a)
	if !bytes.Equal(mustEncode(t, r), lay(r)) {
		t.Fatal("two answers share memory")
	}
}

func TestDecodeOfRecords(t *testing.T) { // P3.2
	for _, want := range good() {
		r, e := Decode(lay(want))
		if e != api.OK || !same(r, want) {
			t.Error("Decode answers", r, e, "want", want)
		}
	}
}

func TestDecodeOfOtherLengths(t *testing.T) { // P3.2: not just such bytes
	mustBeNone(t, "nil", nil)
	for _, r := range good() {
		b := append(lay(r), make([]byte, 70)...)
		for length := range b {
			if length != 64 {
				mustBeNone(t, "length", b[:length])
			}
		}
		mustBeNone(t, "twice", slices.Concat(lay(r), lay(r)))
		mustBeNone(t, "a byte ahead", slices.Concat([]byte{0}, lay(r)[:63]))
	}
}

func TestDecodeOfAnyByteChanged(t *testing.T) { // P3.2: the check sum tells of all bytes
	for _, r := range good() {
		b := lay(r)
		for i := range b {
			was := b[i]
			for v := 1; v < 256; v++ {
				b[i] = was ^ byte(v)
				mustBeNone(t, "changed", b)
			}
			b[i] = was
		}
	}
}

func TestDecodeOfAnotherMark(t *testing.T) { // P3.2
	for i := range 4 {
		for v := 1; v < 256; v++ {
			b := lay(good()[0])
			b[i] ^= byte(v)
			mustBeNone(t, "another mark", seal(b))
		}
	}
	mustBeNone(t, "noughts", make([]byte, 64))
	mustBeNone(t, "noughts with their sum", seal(make([]byte, 64)))
	mustBeNone(t, "ones", bytes.Repeat([]byte{255}, 64))
}

func TestDecodeOfRootsThatMayNotBe(t *testing.T) { // P3.2
	for name, r := range bad() {
		mustBeNone(t, name, lay(r))
	}
}

func TestDecodeOfAnotherNumberOfCheckpoints(t *testing.T) { // P3.2
	// With more of them one of noughts doesn't rise; with fewer there is one where noughts should be.
	for _, r := range good() {
		for _, many := range []int{0, 1, 2, 3, 4, 5, 6, 255, 256, 257, 1<<15 - 1, 1 << 15, 65535} {
			if many != len(r.Snaps) {
				b := lay(r)
				binary.LittleEndian.PutUint16(b[12:], uint16(many))
				mustBeNone(t, "number", seal(b))
			}
		}
	}
}

func mustBeTheRecord(t *testing.T, r api.Root, b []byte) {
	t.Helper()
	if a, e := Encode(r); e != api.OK || !bytes.Equal(a, b) {
		t.Fatal("Encode of Decode answers", a, e, "want", b)
	}
}

func TestDecodeWantsNoughts(t *testing.T) { // P3.2: up to byte 60
	for _, r := range good() {
		for i := 14 + 10*len(r.Snaps); i < 60; i++ {
			for _, v := range []byte{1, 16, 128, 255} {
				b := lay(r)
				b[i] = v
				mustBeNone(t, "no noughts", seal(b))
			}
		}
	}
}

func TestDecodeOfTheSumUpsideDown(t *testing.T) { // P3.2
	for _, r := range good() {
		b := lay(r)
		slices.Reverse(b[60:])
		mustBeNone(t, "sum with the highest byte ahead", b)
	}
}

func TestDecodeIsNewMemory(t *testing.T) { // P2
	for _, want := range good() {
		long := append(lay(want), 1, 2, 3, 4, 5, 6, 7, 8)
		kept := slices.Clone(long)
		b := long[:64]
		one, _ := Decode(b)
		two, _ := Decode(b)
		if !bytes.Equal(long, kept) {
			t.Fatal("Decode changed its bytes")
		}
		clear(one.Snaps)
		clear(b)
		if !same(two, want) {
			t.Fatal("an answer shares memory:", two)
		}
	}
}

func TestChoose(t *testing.T) { // P3.3
	low := rootOf(3, api.Snap{Gen: 3, Top: 5})
	twin := rootOf(3, api.Snap{Gen: 2, Top: 8})
	high := rootOf(4, api.Snap{Gen: 1, Top: 9})
	most := rootOf(top, api.Snap{Gen: 1, Top: 9})
	half := rootOf(1<<63-1, api.Snap{Gen: 1, Top: 9})
	wrong := lay(high)
	wrong[20] ^= 1
	none := make([]byte, 64)
	cases := []struct {
		a, b []byte
		want api.Root
		at   int
	}{
		{lay(low), lay(high), high, 1}, {lay(high), lay(low), high, 0},
		{lay(low), lay(twin), low, 0}, {lay(twin), lay(low), twin, 0}, {lay(low), lay(low), low, 0},
		{lay(half), lay(most), most, 1}, {lay(most), lay(half), most, 0}, {lay(most), lay(low), most, 0},
		{lay(low), wrong, low, 0}, {wrong, lay(low), low, 1},
		{lay(low), none, low, 0}, {none, lay(low), low, 1},
		{lay(low), nil, low, 0}, {nil, lay(low), low, 1},
		{lay(low), lay(high)[:63], low, 0}, {append(lay(high), 0), lay(low), low, 1},
		{lay(rootOf(0, api.Snap{})), none, rootOf(0, api.Snap{}), 0}, {none, lay(rootOf(0, api.Snap{})), rootOf(0, api.Snap{}), 1},
		{lay(rootOf(0, api.Snap{})), lay(low), low, 1},
	}
	for i, c := range cases {
		r, at, e := Choose(c.a, c.b)
		if e != api.OK || at != c.at || !same(r, c.want) {
			t.Errorf("case %d: Choose = %v, %d, %d, want %v, %d", i, r, at, e, c.want, c.at)
		}
	}
}

func TestChooseOfNone(t *testing.T) { // P3.3, P4
	broken := lay(good()[0])
	broken[63] ^= 128
	list := [][]byte{nil, {}, make([]byte, 64), broken, lay(good()[0])[:63], lay(bad()["Top 1"])}
	for _, a := range list {
		for _, b := range list {
			if r, at, e := Choose(a, b); e != api.ErrRoot || at != 0 || !isZero(r) {
				t.Error("Choose answers", r, at, e, "of", a, b)
			}
		}
	}
}

func TestChooseIsNewMemory(t *testing.T) { // P2
	a, b := lay(good()[6]), lay(good()[7])
	wasA, wasB := slices.Clone(a), slices.Clone(b)
	one, _, _ := Choose(a, b)
	two, _, _ := Choose(a, b)
	if !bytes.Equal(a, wasA) || !bytes.Equal(b, wasB) {
		t.Fatal("Choose changed its bytes")
	}
	clear(one.Snaps)
	clear(a)
	clear(b)
	if !same(two, good()[7]) {
		t.Fatal("an answer shares memory:", two)
	}
}

// anyRoot is one that may be.
func anyRoot(r *rand.Rand) api.Root {
	root := api.Root{Gen: r.Uint64() >> r.Intn(62)}
	for range 1 + r.Intn(4) {
		n := r.Intn(1999)
		if n > 0 {
			n++
		}
		root.Snaps = append(root.Snaps, api.Snap{Gen: r.Uint64() % (root.Gen/8 + 1), Top: n})
	}
	slices.SortFunc(root.Snaps, func(a, b api.Snap) int {
		if a.Gen < b.Gen {
			return -1
		}
		return 1
	})
	root.Snaps = slices.CompactFunc(root.Snaps, func(a, b api.Snap) bool { return a.Gen == b.Gen })
	return root
}

func TestThereAndBack(t *testing.T) { // P3.4
	r := rand.New(rand.NewSource(3))
	for range 3000 {
		want := anyRoot(r)
		b := mustEncode(t, want)
		got, e := Decode(b)
		if e != api.OK || !same(got, want) {
			t.Fatal("Decode of Encode answers", got, e, "want", want)
		}
		mustBeTheRecord(t, got, b)
	}
}

func TestBackAndThere(t *testing.T) { // P3.4: of whatever Decode takes
	r := rand.New(rand.NewSource(4))
	taken := 0
	for range 60000 {
		b := lay(anyRoot(r))
		for range 1 + r.Intn(2) {
			b[r.Intn(60)] ^= 1 << r.Intn(8)
		}
		if got, e := Decode(seal(b)); e == api.OK {
			taken++
			mustBeTheRecord(t, got, b)
		} else if e != api.ErrRoot || !isZero(got) {
			t.Fatal("Decode answers", got, e)
		}
	}
	if taken < 5000 {
		t.Fatal("too few records to tell:", taken)
	}
}

// wantTorn tells what is torn by the chapter's words, with bytes put together one by one.
func wantTorn(old, now []byte, cut int, head bool) int {
	b := make([]byte, len(now))
	for i := range b {
		isNow := i < cut
		if !head {
			isNow = !isNow
		}
		if isNow {
			b[i] = now[i]
		} else if i < len(old) {
			b[i] = old[i]
		}
	}
	if _, e := Decode(b); e != api.OK {
		return 0
	}
	if bytes.Equal(b, now) {
		return 2
	}
	if bytes.Equal(b, old) {
		return 1
	}
	return 3
}

func cuts() []int {
	list := []int{math.MinInt, -1 << 32, 1 << 32, math.MaxInt}
	for cut := -2; cut <= 70; cut++ {
		list = append(list, cut)
	}
	return list
}

func TestTornAtAllCuts(t *testing.T) { // P3.5
	sectors := [][]byte{nil, make([]byte, 64), lay(bad()["Top 1"]), lay(good()[0])[:63], append(lay(good()[0]), 7)}
	for _, r := range good() {
		sectors = append(sectors, lay(r))
	}
	for _, old := range sectors {
		for _, now := range sectors {
			for _, cut := range cuts() {
				for _, head := range []bool{false, true} {
					if got, want := Torn(old, now, cut, head), wantTorn(old, now, cut, head); got != want {
						t.Fatalf("Torn(%v, %v, %d, %v) = %d, want %d", old, now, cut, head, got, want)
					}
				}
			}
		}
	}
}

func TestTornKinds(t *testing.T) { // P3.5
	old, now := lay(good()[0]), lay(good()[6])
	other := lay(good()[1])
	cases := []struct {
		name     string
		old, now []byte
		cut      int
		head     bool
		want     int
	}{
		{"nothing of now", old, now, 0, true, 1}, {"nothing of now", old, now, -5, true, 1}, {"nothing of now", old, now, 64, false, 1}, {"nothing of now", old, now, 99, false, 1},
		{"all of now", old, now, 64, true, 2}, {"all of now", old, now, 99, true, 2}, {"all of now", old, now, 0, false, 2}, {"all of now", old, now, -5, false, 2},
		{"the mark alone", old, now, 4, true, 1}, {"all but the mark", old, now, 4, false, 2},
		{"halves", old, now, 32, true, 0}, {"halves", old, now, 32, false, 0},
		{"without its sum", old, now, 60, true, 0}, {"its sum alone", old, now, 60, false, 0},
		{"of both", old, old, 20, true, 2}, {"of both", old, old, 0, true, 2}, {"of both", old, old, 64, false, 2},
		{"over noughts", make([]byte, 64), now, 63, true, 0}, {"over noughts", make([]byte, 64), now, 64, true, 2}, {"over noughts", make([]byte, 64), now, 0, true, 0},
		{"over none", nil, now, 64, true, 2}, {"over none", nil, now, 0, false, 2}, {"over none", nil, now, 10, false, 0},
		{"now is none", old, make([]byte, 64), 0, true, 1}, {"now is none", old, make([]byte, 64), 64, true, 0},
		{"now is short", old, now[:63], 0, true, 0}, {"now is nil", old, nil, 0, true, 0}, {"now is long", old, append(slices.Clone(now), 0), 64, true, 0},
		{"halves of another one", slices.Concat(make([]byte, 20), other[20:]), slices.Concat(other[:20], make([]byte, 44)), 20, true, 3},
		{"halves of another one", slices.Concat(other[:20], make([]byte, 44)), slices.Concat(make([]byte, 20), other[20:]), 20, false, 3},
		{"old is too long to be a record", append(slices.Clone(old), 0), now, 0, true, 3},
	}
	for _, c := range cases {
		if got := Torn(c.old, c.now, c.cut, c.head); got != c.want {
			t.Errorf("%s, cut %d, head %v: %d, want %d", c.name, c.cut, c.head, got, c.want)
		}
	}
}

func TestTornOfTwoRecordsIsAThird(t *testing.T) { // P3.5
	// Gens that differ by the check sum's own terms bring its register to the same, so that either one stands ahead of what the other is summed with.
	const terms = 1 | 0xEDB88320<<1
	old := lay(rootOf(1<<40, api.Snap{Gen: 5, Top: 9}))
	now := lay(rootOf(1<<40^terms, api.Snap{Gen: 6, Top: 10}, api.Snap{Gen: 7, Top: 11}))
	for _, head := range []bool{false, true} {
		if got := Torn(old, now, 12, head); got != 3 {
			t.Errorf("head %v: %d, want 3", head, got)
		}
	}
}

func TestTornLeavesItsBytes(t *testing.T) { // P2
	old, now := append(lay(good()[0]), 9, 9, 9), append(lay(good()[6]), 8, 8, 8)
	wasOld, wasNow := slices.Clone(old), slices.Clone(now)
	for _, cut := range cuts() {
		for _, head := range []bool{false, true} {
			Torn(old[:64], now[:64], cut, head)
			Torn(old[:40], now[:64], cut, head)
		}
	}
	if !bytes.Equal(old, wasOld) || !bytes.Equal(now, wasNow) {
		t.Fatal("Torn changed its bytes")
	}
	// Byte 60 and on lie behind old's length: they count as noughts.
	if got := Torn(old[:60], now[:64], 0, true); got != 0 {
		t.Fatal("Torn reads behind old's length:", got)
	}
}
