package node

import (
	"bytes"
	"encoding/binary"
	"math"
	"math/rand"
	"slices"
	"testing"

	"carrel/api"
)

// wild are numbers that may not be an entry's, nor a place's.
var wild = []int{math.MinInt, math.MinInt + 1, -1 << 63 >> 1, -1 << 32, -65536, -65535, -256, -2, -1, 65536, 65537, 1 << 17, 1 << 31, 1 << 32, 1<<32 + 5, 1<<48 + 1, math.MaxInt - 1, math.MaxInt}

// entry is one that Entries tells.
type entry struct{ at, sector int }

// lay is a node's bytes told by the chapter's words.
func lay(n api.Node) []byte {
	b := []byte{}
	for i := range 32 {
		b = binary.LittleEndian.AppendUint16(b, uint16(n[i]))
	}
	return b
}

// good are nodes that may be, the edges among them.
func good() []api.Node {
	all, most, rising := api.Node{}, api.Node{}, api.Node{}
	for i := range 32 {
		all[i], most[i], rising[i] = 1, 65535, 250+i
	}
	return []api.Node{
		{}, all, most, rising,
		{0: 1}, {31: 1}, {0: 65535, 31: 65535}, {1: 255, 2: 256, 3: 257}, {5: 2, 9: 1999, 30: 2},
		{0: 0x0201, 15: 0x8000, 16: 0x7FFF, 31: 0xFF00},
	}
}

// anyNode has noughts and sectors of all sizes that may be.
func anyNode(r *rand.Rand) api.Node {
	n := api.Node{}
	for i := range n {
		n[i] = r.Intn(65536) >> r.Intn(18)
	}
	return n
}

func listOf(n api.Node) []entry {
	list := []entry{}
	for at, sector := range Entries(n) {
		list = append(list, entry{at, sector})
	}
	return list
}

func mustEncode(t *testing.T, n api.Node) []byte {
	t.Helper()
	b, e := Encode(n)
	if e != api.OK || len(b) != api.PageSize {
		t.Fatal("Encode", n, "answers", b, e)
	}
	return b
}

func TestEncodeOrdinary(t *testing.T) { // P4.1
	b := mustEncode(t, api.Node{0: 2, 1: 0x0732, 3: 65535, 31: 0x0180})
	want := make([]byte, 64)
	copy(want, []byte{2, 0, 0x32, 0x07, 0, 0, 255, 255})
	want[62], want[63] = 0x80, 0x01
	if !bytes.Equal(b, want) {
		t.Fatal(b, want)
	}
}

func TestEncodeOfNodesThatMayBe(t *testing.T) { // P4.1
	for _, n := range good() {
		if b := mustEncode(t, n); !bytes.Equal(b, lay(n)) {
			t.Error("Encode", n, "answers", b, "want", lay(n))
		}
	}
}

func TestEncodeOfNodesThatMayNotBe(t *testing.T) { // P4.1: each entry is asked for
	for _, n := range good() {
		for at := range 32 {
			for _, sector := range wild {
				m := n
				m[at] = sector
				if b, e := Encode(m); e != api.ErrRange || b != nil {
					t.Fatal("Encode of", sector, "at", at, "answers", b, e)
				}
			}
		}
	}
}

func TestEncodeAtTheBounds(t *testing.T) { // P4.1
	for at := range 32 {
		for sector := -300; sector < 66000; sector += 1 + sector&15 {
			want := api.OK
			if sector < 0 || sector > 65535 {
				want = api.ErrRange
			}
			n := api.Node{}
			n[at] = sector
			if _, e := Encode(n); e != want {
				t.Fatal("Encode of", sector, "at", at, "answers", e, "want", want)
			}
		}
	}
}

func TestEncodeIsNewMemory(t *testing.T) { // P2
	for _, n := range good() {
		a, was := mustEncode(t, n), n
		room := a[:cap(a)]
		for i := range room {
			room[i] ^= 0xFF
		}
		if b := mustEncode(t, n); n != was || !bytes.Equal(b, lay(was)) {
			t.Fatal("an answer shares memory:", n, b)
		}
	}
}

func TestDecodeOrdinary(t *testing.T) { // P4.1
	b := make([]byte, 64)
	b[0], b[3], b[4], b[5], b[62], b[63] = 7, 1, 255, 255, 9, 128
	n, e := Decode(b)
	if want := (api.Node{0: 7, 1: 256, 2: 65535, 31: 0x8009}); e != api.OK || n != want {
		t.Fatal(n, e)
	}
	for _, want := range good() {
		if n, e := Decode(lay(want)); e != api.OK || n != want {
			t.Error("Decode answers", n, e, "want", want)
		}
	}
}

func TestDecodeOfOtherLengths(t *testing.T) { // P4.1
	long := append(lay(good()[2]), make([]byte, 80)...)
	for length := range long {
		n, e := Decode(long[:length])
		if length != 64 && (e != api.ErrRange || n != api.Node{}) {
			t.Error("Decode of", length, "bytes answers", n, e)
		}
	}
	if n, e := Decode(nil); e != api.ErrRange || n != (api.Node{}) {
		t.Error("Decode of nil answers", n, e)
	}
}

func TestDecodeLeavesItsBytes(t *testing.T) { // P2
	for _, want := range good() {
		long := append(lay(want), 1, 2, 3, 4)
		was := slices.Clone(long)
		n, _ := Decode(long[:64])
		if !bytes.Equal(long, was) {
			t.Fatal("Decode changed its bytes")
		}
		clear(long)
		if n != want {
			t.Fatal("an answer shares memory:", n)
		}
	}
}

func TestExamplesOfTheChapter(t *testing.T) { // P4.2
	if top, leaf, e := Path(70); top != 2 || leaf != 6 || e != api.OK {
		t.Error("Path(70):", top, leaf, e)
	}
	if page, e := Page(2, 6); page != 70 || e != api.OK {
		t.Error("Page(2, 6):", page, e)
	}
	if page, e := Page(4, 0); page != 0 || e != api.ErrRange {
		t.Error("Page(4, 0):", page, e)
	}
}

func TestPathOfAllPages(t *testing.T) { // P4.2: by counting, not by dividing
	want := entry{}
	for page := range 128 {
		if top, leaf, e := Path(page); e != api.OK || top != want.at || leaf != want.sector {
			t.Fatal("Path of", page, "answers", top, leaf, e, "want", want)
		}
		want.sector++
		if want.sector == 32 {
			want = entry{want.at + 1, 0}
		}
	}
}

func TestPathOfNoPage(t *testing.T) { // P4.2
	for _, page := range append([]int{128, 129, 160, 1024, 65535}, wild...) {
		if top, leaf, e := Path(page); e != api.ErrRange || top != 0 || leaf != 0 {
			t.Error("Path of", page, "answers", top, leaf, e)
		}
	}
}

func TestPageOfAllEntries(t *testing.T) { // P4.2
	page := 0
	for top := range 4 {
		for leaf := range 32 {
			if got, e := Page(top, leaf); e != api.OK || got != page {
				t.Fatal("Page of", top, leaf, "answers", got, e, "want", page)
			}
			page++
		}
	}
}

func TestPageOfNoEntries(t *testing.T) { // P4.2
	// A leaf's entry below 0 or past 31 leads nowhere, even where the sum would be a page.
	list := append([]int{4, 5, 31, 32, 33, 63, 64, 96, 127, 128}, wild...)
	for _, n := range list {
		for top := range 4 {
			if n > 31 || n < 0 {
				mustLeadNowhere(t, top, n)
			}
		}
		for leaf := range 32 {
			mustLeadNowhere(t, n, leaf)
		}
		for _, m := range list {
			mustLeadNowhere(t, n, m)
		}
	}
}

func mustLeadNowhere(t *testing.T, top, leaf int) {
	t.Helper()
	if page, e := Page(top, leaf); e != api.ErrRange || page != 0 {
		t.Error("Page of", top, leaf, "answers", page, e)
	}
}

func TestWith(t *testing.T) { // P4.3
	for _, n := range good() {
		was := n
		for at := range 32 {
			for _, sector := range append([]int{0, 1, 9, 65535}, wild...) {
				got, e := With(n, at, sector)
				if e != api.OK || got[at] != sector {
					t.Fatal("With at", at, "answers", got, e)
				}
				got[at] = n[at]
				if got != n || n != was {
					t.Fatal("With at", at, "changed another entry, or its node:", got, n)
				}
			}
		}
	}
}

func TestWithOfNoEntry(t *testing.T) { // P4.3, P4
	for _, n := range good() {
		for _, at := range append([]int{32, 33, 63, 64}, wild...) {
			if got, e := With(n, at, 7); e != api.ErrRange || got != (api.Node{}) {
				t.Fatal("With at", at, "answers", got, e)
			}
		}
	}
}

func TestEntries(t *testing.T) { // P4.4
	cases := []struct {
		n    api.Node
		want []entry
	}{
		{api.Node{}, nil},
		{api.Node{0: 5}, []entry{{0, 5}}},
		{api.Node{31: 5}, []entry{{31, 5}}},
		{api.Node{3: 9, 4: 2, 30: 65535}, []entry{{3, 9}, {4, 2}, {30, 65535}}},
		{api.Node{1: 4, 2: 4}, []entry{{1, 4}, {2, 4}}},
		{api.Node{2: -1, 7: 65536, 8: math.MinInt}, []entry{{2, -1}, {7, 65536}, {8, math.MinInt}}},
	}
	for _, c := range cases {
		if got := listOf(c.n); !slices.Equal(got, c.want) {
			t.Error("Entries of", c.n, "tells", got, "want", c.want)
		}
	}
}

func TestEntriesOfMany(t *testing.T) { // P4.4
	r := rand.New(rand.NewSource(4))
	for range 500 {
		n := anyNode(r)
		want := []entry{}
		for at := 0; at < 32; at++ {
			if n[at] != 0 {
				want = append(want, entry{at, n[at]})
			}
		}
		if got := listOf(n); !slices.Equal(got, want) {
			t.Fatal("Entries of", n, "tells", got, "want", want)
		}
	}
}

func TestEntriesLeft(t *testing.T) { // P4.4: it may be left, and gone over again
	for _, n := range good() {
		all, told := Entries(n), listOf(n)
		for many := 1; many <= len(told); many++ {
			got := []entry{}
			all(func(at, sector int) bool {
				got = append(got, entry{at, sector})
				return len(got) < many
			})
			if !slices.Equal(got, told[:many]) {
				t.Fatal("left behind", many, "Entries told", got, "of", told)
			}
		}
		for range 2 {
			again := []entry{}
			for at, sector := range all {
				again = append(again, entry{at, sector})
			}
			if !slices.Equal(again, told) {
				t.Fatal("gone over again, Entries told", again, "of", told)
			}
		}
	}
}

func TestEntriesOneWithinTheOther(t *testing.T) { // P4.4
	all, told := Entries(good()[8]), listOf(good()[8])
	got := []entry{}
	for at, sector := range all {
		got = append(got, entry{at, sector})
		for at, sector := range all {
			got = append(got, entry{at, sector})
		}
	}
	want := []entry{}
	for _, e := range told {
		want = append(append(want, e), told...)
	}
	if !slices.Equal(got, want) {
		t.Fatal(got, want)
	}
}

func TestEntriesKeepTheirNode(t *testing.T) { // P2
	n := api.Node{3: 9, 4: 2}
	all, got := Entries(n), []entry{}
	n[3], n[4], n[5] = 0, 7, 7
	for at, sector := range all {
		n[4]++
		got = append(got, entry{at, sector})
	}
	if !slices.Equal(got, []entry{{3, 9}, {4, 2}}) {
		t.Fatal("Entries follow what became of the node:", got)
	}
}

func TestThereAndBackNodes(t *testing.T) { // P4.5
	r := rand.New(rand.NewSource(5))
	list := good()
	for range 2000 {
		list = append(list, anyNode(r))
	}
	for _, n := range list {
		if got, e := Decode(mustEncode(t, n)); e != api.OK || got != n {
			t.Fatal("Decode of Encode answers", got, e, "want", n)
		}
	}
	b := make([]byte, 64)
	for range 2000 {
		r.Read(b)
		n, e := Decode(b)
		if e != api.OK || !bytes.Equal(mustEncode(t, n), b) {
			t.Fatal("Encode of Decode isn't", b)
		}
	}
}

func TestThereAndBackPages(t *testing.T) { // P4.5
	for page := range 128 {
		top, leaf, _ := Path(page)
		if got, e := Page(top, leaf); e != api.OK || got != page {
			t.Fatal("Page of Path of", page, "answers", got, e)
		}
	}
	for top := range 4 {
		for leaf := range 32 {
			page, _ := Page(top, leaf)
			if a, b, e := Path(page); e != api.OK || a != top || b != leaf {
				t.Fatal("Path of Page of", top, leaf, "answers", a, b, e)
			}
		}
	}
}
