package shadow

import (
	"bytes"
	"encoding/binary"
	"math"
	"math/rand"
	"slices"
	"testing"

	"carrel/api"
	"carrel/disk"
	"carrel/space"
	"carrel/walk"
)

// noPages are numbers of no page.
var noPages = []int{math.MinInt, math.MinInt + 3, -1 << 32, -128, -32, -2, -1, 128, 129, 160, 8192, 1<<32 + 3, math.MaxInt - 1, math.MaxInt}

// entries are a node's by their places; the others are 0.
type entries map[int]int

// lay is a node's bytes told by the chapters' words.
func lay(l entries) []byte {
	b := make([]byte, 64)
	for at, sector := range l {
		binary.LittleEndian.PutUint16(b[2*at:], uint16(sector))
	}
	return b
}

// fill is a page's bytes, other ones for each seed below 256, and never noughts alone.
func fill(seed int) []byte {
	b := make([]byte, 64)
	for i := range b {
		b[i] = byte(seed + i*3)
	}
	return b
}

func noughts() []byte { return make([]byte, 64) }

func change(at int, b []byte) api.Change { return api.Change{Page: at, Data: b} }

// changes are of these pages, each to what fill tells of its number and the seed.
func changes(seed int, pages ...int) []api.Change {
	l := []api.Change{}
	for _, at := range pages {
		l = append(l, change(at, fill(at+seed)))
	}
	return l
}

// wipes are changes of these pages to noughts.
func wipes(pages ...int) []api.Change {
	l := []api.Change{}
	for _, at := range pages {
		l = append(l, change(at, noughts()))
	}
	return l
}

func mustRead(t *testing.T, d *disk.Disk, n int) []byte {
	t.Helper()
	b, e := d.Read(n)
	if e != api.OK {
		t.Fatal("Read of", n, "answers", e)
	}
	return b
}

func mustHave(t *testing.T, d *disk.Disk, n int, want []byte) {
	t.Helper()
	if got := mustRead(t, d, n); !bytes.Equal(got, want) {
		t.Fatal("sector", n, "is", got, "want", want)
	}
}

func mustLoad(t *testing.T, d *disk.Disk, top int) []byte {
	t.Helper()
	memory, e := walk.Load(d, top)
	if e != api.OK {
		t.Fatal("Load of", top, "answers", e)
	}
	return memory
}

func mustReach(t *testing.T, d *disk.Disk, top int, want ...int) {
	t.Helper()
	if got, e := walk.Reach(d, top); e != api.OK || !slices.Equal(got, want) {
		t.Fatal("Reach of", top, "answers", got, e, "want", want)
	}
}

func mustCost(t *testing.T, d *disk.Disk, top int, l []api.Change, want int) {
	t.Helper()
	if got, e := Cost(d, top, l); e != api.OK || got != want {
		t.Fatal("Cost answers", got, e, "want", want)
	}
}

// mustBuild holds the new top and the number of writes against what is wanted.
func mustBuild(t *testing.T, d *disk.Disk, m *space.Map, top int, l []api.Change, want, writes int) {
	t.Helper()
	mustCost(t, d, top, l, writes)
	acts, free := d.Acts(), m.Free()
	if got, e := Build(d, m, top, l); e != api.OK || got != want {
		t.Fatal("Build answers", got, e, "want", want)
	}
	if d.Acts()-acts != writes || free-m.Free() != writes {
		t.Fatal("Build did", d.Acts()-acts, "acts and took", free-m.Free(), "sectors, want", writes)
	}
}

func holds(m *space.Map, sectors int) []int {
	l := make([]int, sectors)
	for n := range l {
		l[n] = m.Count(n)
	}
	return l
}

// mustFail holds both calls to an error, with nothing beside it, written or taken.
func mustFail(t *testing.T, d *disk.Disk, m *space.Map, top int, l []api.Change, want api.Errno) {
	t.Helper()
	if n, e := Cost(d, top, l); e != want || n != 0 {
		t.Fatal("Cost answers", n, e, "want", want)
	}
	mustNotBuild(t, d, m, top, l, want)
}

func mustNotBuild(t *testing.T, d *disk.Disk, m *space.Map, top int, l []api.Change, want api.Errno) {
	t.Helper()
	acts, waiting, held := d.Acts(), d.Waiting(), holds(m, 2000)
	if n, e := Build(d, m, top, l); e != want || n != 0 {
		t.Fatal("Build answers", n, e, "want", want)
	}
	if d.Acts() != acts || !slices.Equal(d.Waiting(), waiting) || !slices.Equal(holds(m, 2000), held) {
		t.Fatal("Build wrote", d.Waiting(), "and holds", m.Used())
	}
}

// small is a disk of 20 sectors with a tree of pages 3, 30 and 64, its top on 9, and the map that holds it.
func small(t *testing.T) (*disk.Disk, *space.Map) {
	t.Helper()
	return sown(t, 20, 9, map[int][]byte{
		9: lay(entries{0: 4, 2: 12}), 4: lay(entries{3: 19, 30: 2}), 12: lay(entries{0: 11}),
		19: fill(1), 2: fill(2), 11: fill(3),
	})
}

// sown is a disk with a good tree, other sectors full of 255, and the map that holds what the tree reaches.
func sown(t *testing.T, sectors, top int, nodes map[int][]byte) (*disk.Disk, *space.Map) {
	t.Helper()
	b := bytes.Repeat([]byte{255}, sectors*64)
	for n, data := range nodes {
		copy(b[n*64:], data)
	}
	d, m := disk.Of(b), space.New(sectors)
	l, e := walk.Reach(d, top)
	if e != api.OK {
		t.Fatal("the tree isn't good:", e)
	}
	for _, n := range l {
		m.Hold(n)
	}
	return d, m
}

func TestExampleOfTheChapter(t *testing.T) { // P7.1, P7.2
	d, m := disk.New(8), space.New(8)
	mustBuild(t, d, m, 0, changes(0, 70), 4, 3)
	mustReach(t, d, 4, 4, 3, 2)
	if n, e := walk.Find(d, 4, 70); n != 2 || e != api.OK {
		t.Fatal(n, e)
	}
}

func TestMerge(t *testing.T) { // P7.3
	got, e := Merge([]api.Change{
		change(127, fill(1)), change(5, fill(2)), change(0, fill(3)), change(5, noughts()), change(64, fill(4)), change(127, fill(5)), change(0, fill(3)),
	})
	want := []api.Change{change(0, fill(3)), change(5, noughts()), change(64, fill(4)), change(127, fill(5))}
	mustBeChanges(t, got, e, want)
}

func mustBeChanges(t *testing.T, got []api.Change, e api.Errno, want []api.Change) {
	t.Helper()
	alike := func(a, b api.Change) bool { return a.Page == b.Page && bytes.Equal(a.Data, b.Data) }
	if e != api.OK || !slices.EqualFunc(got, want, alike) {
		t.Fatal("Merge answers", got, e, "want", want)
	}
}

func TestMergeOfNothing(t *testing.T) { // P7.3, P3
	for _, l := range [][]api.Change{nil, {}} {
		got, e := Merge(l)
		mustBeChanges(t, got, e, nil)
	}
}

func TestMergeOfAllPages(t *testing.T) { // P7.3: from both ends, each page twice
	l, want := []api.Change{}, []api.Change{}
	for at := range 128 {
		l = append(l, change(127-at, fill(200)), change(at, fill(201)))
		want = append(want, change(at, fill(201)))
	}
	for at := range 64 {
		want[at] = change(at, fill(200)) // below 64 the call from above comes later
	}
	got, e := Merge(l)
	mustBeChanges(t, got, e, want)
}

// wrong are changes that may not be.
func wrong() []api.Change {
	l := []api.Change{change(3, nil), change(3, []byte{}), change(3, fill(1)[:63]), change(3, append(fill(1), 0)), change(3, append(fill(1), fill(1)...)), change(128, nil)}
	for _, at := range noPages {
		l = append(l, change(at, fill(1)))
	}
	return l
}

func TestWrongChanges(t *testing.T) { // P7.1 to P7.3: wherever they stand, also where a later one takes their place
	for _, c := range wrong() {
		for _, l := range [][]api.Change{
			{c},
			{change(0, fill(1)), c},
			{c, change(3, fill(1))},
			{change(3, fill(2)), c, change(c.Page, fill(1)), change(3, fill(1))},
		} {
			if got, e := Merge(l); e != api.ErrRange || got != nil {
				t.Fatal("Merge answers", got, e)
			}
			d, m := small(t)
			mustFail(t, d, m, 9, l, api.ErrRange)
		}
	}
}

func TestMergeAnswersNewMemory(t *testing.T) { // P2
	data := append(fill(7), 1, 2, 3)
	l := []api.Change{change(9, data[:64]), change(8, fill(8)), change(9, data[:64])}
	a, _ := Merge(l)
	b, _ := Merge(l)
	want := []api.Change{change(8, fill(8)), change(9, fill(7))}
	for i := range a {
		whole := a[i].Data[:cap(a[i].Data)]
		for j := range whole {
			whole[j] ^= 0xFF
		}
		a[i].Page = 1
	}
	mustBeChanges(t, b, api.OK, want)
	mustBeChanges(t, l, api.OK, []api.Change{change(9, fill(7)), change(8, fill(8)), change(9, fill(7))})
	if !bytes.Equal(data[64:], []byte{1, 2, 3}) {
		t.Fatal("what lies behind was changed:", data[64:])
	}
	clear(data)
	mustBeChanges(t, b, api.OK, want)
}

func TestCost(t *testing.T) { // P7.1
	cases := []struct {
		name string
		l    []api.Change
		want int
	}{
		{"nothing", nil, 0},
		{"a page that was there", changes(0, 3), 3},
		{"a page that is as it was", []api.Change{change(3, fill(1))}, 3},
		{"a page beside", changes(0, 4), 3},
		{"a page of a new leaf", changes(0, 32), 3},
		{"one page three times", append(changes(0, 3, 3), change(3, fill(99))), 3},
		{"two pages of a leaf", changes(0, 0, 31), 4},
		{"pages of two leaves", changes(0, 31, 32), 5},
		{"pages of all leaves", changes(0, 0, 32, 64, 96), 9},
		{"noughts of one of two pages", wipes(3), 2},
		{"noughts of a leaf's only page", wipes(64), 1},
		{"noughts of a leaf's both pages", wipes(3, 30), 1},
		{"noughts where nothing was", wipes(5), 2},
		{"noughts of a leaf that there isn't", wipes(32), 1},
		{"noughts of all", wipes(3, 30, 64), 0},
		{"noughts of all and of others", wipes(0, 3, 30, 64, 65, 127), 0},
		{"noughts of all and a page", append(wipes(3, 30, 64), changes(0, 100)...), 3},
		{"noughts, then a page", append(wipes(3), changes(0, 3)...), 3},
		{"a page, then noughts", append(changes(0, 64), wipes(64)...), 1},
		{"a leaf wiped, a leaf changed", append(wipes(64), changes(0, 3)...), 3},
	}
	for _, c := range cases {
		t.Run(c.name, func(t *testing.T) {
			d, m := small(t)
			mustCost(t, d, 9, c.l, c.want)
			if d.Acts() != 0 || len(d.Waiting()) != 0 {
				t.Fatal("Cost wrote", d.Waiting())
			}
			acts := d.Acts()
			if _, e := Build(d, m, 9, c.l); e != api.OK || d.Acts()-acts != c.want {
				t.Fatal("Build wrote", d.Acts()-acts, e)
			}
		})
	}
}

func TestCostOfAll(t *testing.T) { // P7.1, P7.2: 128 pages, four leaves, the top
	l := []api.Change{}
	for at := range 128 {
		l = append(l, change(127-at, fill(at)))
	}
	d, m := disk.New(135), space.New(135)
	mustBuild(t, d, m, 0, l, 134, 133)
	for at := range 128 {
		mustHave(t, d, 2+at, fill(127-at))
	}
	mustBuild(t, d, m, 134, nil, 134, 0)
	mustFullAt(t, d, m, 134, changes(0, 5), 3)
}

// mustFullAt holds Build to ErrFull, with Cost's answer as it is.
func mustFullAt(t *testing.T, d *disk.Disk, m *space.Map, top int, l []api.Change, cost int) {
	t.Helper()
	mustCost(t, d, top, l, cost)
	mustNotBuild(t, d, m, top, l, api.ErrFull)
}

func TestBuild(t *testing.T) { // P7.2: pages, leaves, the top, each kind rising, on the lowest sectors that are free
	d, m := small(t)
	l := []api.Change{change(96, fill(50)), change(3, fill(51)), change(31, fill(52)), change(96, fill(53))}
	mustBuild(t, d, m, 9, l, 10, 6)
	if got := d.Waiting(); !slices.Equal(got, []int{3, 5, 6, 7, 8, 10}) {
		t.Fatal("written:", got)
	}
	mustHave(t, d, 3, fill(51))
	mustHave(t, d, 5, fill(52))
	mustHave(t, d, 6, fill(53))
	mustHave(t, d, 7, lay(entries{3: 3, 30: 2, 31: 5}))
	mustHave(t, d, 8, lay(entries{31: 0, 0: 6}))
	mustHave(t, d, 10, lay(entries{0: 7, 2: 12, 3: 8}))
	mustReach(t, d, 10, 10, 7, 3, 2, 5, 12, 11, 8, 6)
	mustReach(t, d, 9, 9, 4, 19, 2, 12, 11)
}

func TestBuildTakesRoomThatIsLeft(t *testing.T) { // P7.2: gaps, and what was dropped
	d, m := small(t)
	for _, n := range []int{3, 6, 7, 13} {
		m.Hold(n)
	}
	m.Drop(7)
	mustBuild(t, d, m, 9, changes(0, 64), 8, 3)
	if got := d.Waiting(); !slices.Equal(got, []int{5, 7, 8}) {
		t.Fatal("written:", got)
	}
}

func TestBuildOfNoChange(t *testing.T) { // P7.2: the old top, also one without an entry, and without any room
	for _, l := range [][]api.Change{nil, {}} {
		d, m := small(t)
		mustBuild(t, d, m, 9, l, 9, 0)
		mustBuild(t, d, m, 0, l, 0, 0)
		bare, held := sown(t, 8, 5, map[int][]byte{5: noughts()})
		mustBuild(t, bare, held, 5, l, 5, 0)
		mustBuild(t, d, space.New(0), 9, l, 9, 0)
		mustBuild(t, d, nil, 9, l, 9, 0)
		d.Arm(0)
		mustBuild(t, d, m, 9, l, 9, 0)
	}
}

func TestBuildOfTheSameBytes(t *testing.T) { // P7.2: a change is one, whatever the page was
	d, m := small(t)
	mustBuild(t, d, m, 9, []api.Change{change(64, fill(3))}, 6, 3)
	mustReach(t, d, 6, 6, 4, 19, 2, 5, 3)
	if !bytes.Equal(mustLoad(t, d, 6), mustLoad(t, d, 9)) {
		t.Fatal("the memory changed")
	}
}

func TestBuildOfNoughts(t *testing.T) { // P7.2: no sector for a page, a leaf, a top without anything
	d, m := small(t)
	mustBuild(t, d, m, 9, wipes(30), 5, 2)
	mustReach(t, d, 5, 5, 3, 19, 12, 11)
	mustBuild(t, d, m, 9, wipes(64), 6, 1)
	mustReach(t, d, 6, 6, 4, 19, 2)
	mustBuild(t, d, m, 9, wipes(3, 30, 64), 0, 0)
	mustBuild(t, d, m, 0, wipes(0, 127), 0, 0)
	mustBuild(t, d, m, 9, wipes(100), 7, 1)
	mustReach(t, d, 7, 7, 4, 19, 2, 12, 11)
}

func TestNoughtsNeedNoRoom(t *testing.T) { // P7.2
	d, _ := small(t)
	mustBuild(t, d, space.New(0), 9, wipes(3, 30, 64), 0, 0)
	mustBuild(t, d, nil, 9, wipes(3, 30, 64), 0, 0)
	d.Arm(0)
	mustBuild(t, d, nil, 9, wipes(3, 30, 64), 0, 0)
}

func TestOneByteIsEnough(t *testing.T) { // P7.1, P7.2: whichever byte of the page it is
	for at := range 64 {
		b := noughts()
		b[at] = 128
		d, m := disk.New(8), space.New(8)
		mustBuild(t, d, m, 0, []api.Change{change(at, b)}, 4, 3)
		mustHave(t, d, 2, b)
	}
}

func TestOldTreesWithoutPages(t *testing.T) { // P7.1, P7.2: what none of the pages are in stays, bare or not
	nodes := map[int][]byte{5: lay(entries{0: 6, 1: 7, 3: 3}), 6: noughts(), 7: lay(entries{2: 4}), 3: noughts(), 4: noughts()}
	d, m := sown(t, 16, 5, nodes)
	mustBuild(t, d, m, 5, wipes(40), 8, 2) // the leaf has page 34, of noughts
	mustReach(t, d, 8, 8, 6, 2, 4, 3)
	mustHave(t, d, 8, lay(entries{0: 6, 1: 2, 3: 3}))
	mustBuild(t, d, m, 5, wipes(0), 9, 1) // the bare leaf goes
	mustReach(t, d, 9, 9, 7, 4, 3)
	mustBuild(t, d, m, 5, wipes(31, 34, 127), 0, 0)
	mustBuild(t, d, m, 5, wipes(31, 34), 10, 1) // the other bare leaf stays
	mustReach(t, d, 10, 10, 3)
	bare, held := sown(t, 8, 5, map[int][]byte{5: noughts()})
	mustBuild(t, bare, held, 5, wipes(40), 0, 0)
	mustBuild(t, bare, held, 5, changes(0, 40), 4, 3)
}

func TestEachPageByItself(t *testing.T) { // P7.2, P7.5
	for at := range 128 {
		d, m := disk.New(8), space.New(8)
		mustBuild(t, d, m, 0, changes(1, at), 4, 3)
		mustHave(t, d, 4, lay(entries{at / 32: 3}))
		mustHave(t, d, 3, lay(entries{at % 32: 2}))
		want := make([]byte, 8192)
		copy(want[at*64:], fill(at+1))
		if got := mustLoad(t, d, 4); !bytes.Equal(got, want) {
			t.Fatal("page", at, "isn't alone")
		}
		mustBuild(t, d, m, 4, wipes(at), 0, 0)
	}
}

func TestNoRoom(t *testing.T) { // P7.2: just enough, and one less
	for _, l := range [][]api.Change{changes(0, 3), changes(0, 0, 31), changes(0, 0, 32, 64, 96), wipes(3), wipes(64)} {
		d, m := small(t)
		cost, _ := Cost(d, 9, l)
		for m.Free() > cost {
			m.Take()
		}
		tight := m.Copy()
		tight.Take()
		mustFullAt(t, d, tight, 9, l, cost)
		if top, e := Build(d, m, 9, l); e != api.OK || top == 0 || m.Free() != 0 {
			t.Fatal("Build answers", top, e)
		}
	}
}

func TestMapsWithoutRoom(t *testing.T) { // P7.2, P1: those that nobody made have no sector free
	var value space.Map
	for _, m := range []*space.Map{nil, new(space.Map), &value, space.New(-1), space.New(0), space.New(2), space.New(4)} {
		d, _ := small(t)
		mustFullAt(t, d, m, 0, changes(0, 0), 3)
		mustFullAt(t, d, m, 9, changes(0, 3), 3)
	}
}

func TestTreesThatAreNotGood(t *testing.T) { // P7.1, P7.2: walk.Reach's error, also with no page, and ahead of ErrFull
	for _, nodes := range []map[int]entries{
		{9: {0: 4, 3: 5}, 4: {0: 2}, 5: {31: 1}},
		{9: {0: 4, 3: 5}, 4: {0: 2}, 5: {31: 2}},
		{9: {0: 4, 4: 5}, 4: {0: 2}, 5: {}},
		{9: {0: 4, 1: 10}, 4: {}},
	} {
		b := make([]byte, 640)
		for n, l := range nodes {
			copy(b[n*64:], lay(l))
		}
		d := disk.Of(b)
		for _, m := range []*space.Map{space.New(10), space.New(0), nil} {
			for _, l := range [][]api.Change{nil, changes(0, 40), wipes(0), wipes(0, 127)} {
				mustFail(t, d, m, 9, l, api.ErrTree)
			}
		}
	}
	d, m := small(t)
	for _, top := range []int{math.MinInt, -1, 1, 20, 4, 2000, math.MaxInt} {
		mustFail(t, d, m, top, changes(0, 3), api.ErrTree)
		mustFail(t, d, m, top, nil, api.ErrTree)
	}
}

func TestOrderOfErrors(t *testing.T) { // P7.1, P7.2, P4: Merge's, then Reach's, then ErrFull
	down, m := small(t)
	down.Arm(0)
	down.Flush()
	for _, d := range []*disk.Disk{down, nil, new(disk.Disk)} {
		for _, top := range []int{0, 1, 9, 20} {
			mustFail(t, d, m, top, changes(0, 128), api.ErrRange)
			mustFail(t, d, nil, top, changes(0, 3), api.ErrDown)
			mustFail(t, d, m, top, wipes(3), api.ErrDown)
			mustFail(t, d, m, top, nil, api.ErrDown)
		}
	}
	d, full := small(t)
	for full.Free() > 0 {
		full.Take()
	}
	mustFail(t, d, full, 1, changes(0, -1), api.ErrRange)
	mustFail(t, d, full, 1, changes(0, 3), api.ErrTree)
	mustFullAt(t, d, full, 9, changes(0, 3), 3)
}

func TestPowerThatGoes(t *testing.T) { // P7.2: what was taken by then stays held
	l := changes(0, 3, 31, 96)
	taken := []int{3, 5, 6, 7, 8, 10}
	for acts := range taken {
		d, m := small(t)
		ahead := holds(m, 20)
		d.Arm(acts)
		if top, e := Build(d, m, 9, l); e != api.ErrDown || top != 0 {
			t.Fatal("Build answers", top, e)
		}
		for _, n := range taken[:acts+1] {
			ahead[n]++
		}
		if got := holds(m, 20); !slices.Equal(got, ahead) {
			t.Fatal("behind", acts, "acts held:", got, "want", ahead)
		}
		d.Restart(api.Fate{Stay: math.MaxUint64, Torn: -1})
		for _, n := range taken[acts:] {
			mustHave(t, d, n, bytes.Repeat([]byte{255}, 64))
		}
		mustHave(t, d, 9, lay(entries{0: 4, 2: 12}))
	}
	d, m := small(t)
	d.Arm(len(taken))
	mustBuild(t, d, m, 9, l, 10, len(taken))
	if d.Flush() != api.ErrDown {
		t.Fatal("Build did more acts than it said")
	}
}

func TestMapThatIsLargerThanTheDisk(t *testing.T) { // P7.2: disk's error of a write
	d, m := disk.New(4), space.New(100)
	if top, e := Build(d, m, 0, changes(0, 3)); e != api.ErrRange || top != 0 {
		t.Fatal("Build answers", top, e)
	}
	if got := m.Used(); !slices.Equal(got, []int{2, 3, 4}) || !slices.Equal(d.Waiting(), []int{2, 3}) {
		t.Fatal("held:", got, "written:", d.Waiting())
	}
	mustHave(t, d, 2, fill(3))
	mustHave(t, d, 3, lay(entries{3: 2}))
}

func TestHeldOnce(t *testing.T) { // P7.2: what was held stays held as often, nothing is dropped
	d, m := small(t)
	for _, n := range []int{4, 4, 9, 15} {
		m.Hold(n)
	}
	want := holds(m, 20)
	mustBuild(t, d, m, 9, append(changes(0, 3, 31), wipes(64)...), 7, 4)
	for _, n := range []int{3, 5, 6, 7} {
		want[n] = 1
	}
	if got := holds(m, 20); !slices.Equal(got, want) {
		t.Fatal("held:", got, "want", want)
	}
}

func TestChangesStay(t *testing.T) { // P2: neither they nor what lies behind them are changed or kept
	d, m := small(t)
	data := append(fill(7), 1, 2, 3)
	l := append(make([]api.Change, 0, 8), change(40, data[:64]), change(3, fill(9)), change(40, data[:64]))
	l[:8][7] = change(5, fill(5))
	Cost(d, 9, l)
	top, e := Build(d, m, 9, l)
	if e != api.OK {
		t.Fatal(e)
	}
	mustBeChanges(t, l, api.OK, []api.Change{change(40, fill(7)), change(3, fill(9)), change(40, fill(7))})
	mustBeChanges(t, l[:8][7:], api.OK, changes(0, 5))
	clear(data)
	clear(l[1].Data)
	memory := mustLoad(t, d, top)
	if !bytes.Equal(memory[40*64:41*64], fill(7)) || !bytes.Equal(memory[3*64:4*64], fill(9)) {
		t.Fatal("the disk follows the changes")
	}
}

func TestWhatWaitsIsRead(t *testing.T) { // P7.5: the old tree is as it was last written
	d, m := disk.New(20), space.New(20)
	top, _ := Build(d, m, 0, changes(0, 3, 70))
	next, e := Build(d, m, top, changes(50, 70, 71))
	if e != api.OK || d.Acts() != len(d.Waiting()) {
		t.Fatal(e)
	}
	want := make([]byte, 8192)
	copy(want[3*64:], fill(3))
	copy(want[70*64:], fill(120))
	copy(want[71*64:], fill(121))
	if !bytes.Equal(mustLoad(t, d, next), want) {
		t.Fatal("the new tree isn't the old one with the changes")
	}
}

// tree is one that was built, and the memory that it must be.
type tree struct {
	top    int
	memory []byte
}

func anyChanges(r *rand.Rand) []api.Change {
	l := []api.Change{}
	low, wide := r.Intn(128), 1+r.Intn(128)
	for range r.Intn(12) {
		at := min(low+r.Intn(wide), 127)
		if r.Intn(3) == 0 {
			l = append(l, change(at, noughts()))
		} else {
			l = append(l, change(at, fill(r.Intn(256))))
		}
	}
	return l
}

func isBare(memory []byte) bool {
	return !slices.ContainsFunc(memory, func(b byte) bool { return b != 0 })
}

// costOf tells by the chapter's words what changes of a tree without pages or leaves of noughts cost, from the memory ahead and the changes.
func costOf(memory []byte, l []api.Change) int {
	last := map[int][]byte{}
	now := bytes.Clone(memory)
	for _, c := range l {
		last[c.Page] = c.Data
		copy(now[c.Page*64:], c.Data)
	}
	leaves, cost := map[int]bool{}, 0
	for at, data := range last {
		leaves[at/32] = true
		if !isBare(data) {
			cost++
		}
	}
	for i := range leaves {
		if !isBare(now[i*2048 : i*2048+2048]) {
			cost++
		}
	}
	if len(last) > 0 && !isBare(now) {
		cost++
	}
	return cost
}

func TestManyTrees(t *testing.T) { // P7.1 to P7.5: trees beside trees, each held till it goes
	r := rand.New(rand.NewSource(7))
	built, full := 0, 0
	for range 40 {
		sectors := 20 + r.Intn(300)
		d, m := disk.New(sectors), space.New(sectors)
		trees := []tree{{0, make([]byte, 8192)}}
		for range 40 {
			old, l := trees[r.Intn(len(trees))], anyChanges(r)
			next, e := grow(t, d, m, old, l)
			if e == api.ErrFull {
				full++
				trees = fell(t, d, m, trees, r)
				continue
			}
			built++
			trees = append(trees, next)
			for _, one := range trees {
				if !bytes.Equal(mustLoad(t, d, one.top), one.memory) {
					t.Fatal("a tree is not as it was")
				}
			}
		}
	}
	if built < 400 || full < 50 {
		t.Fatal("built:", built, "full:", full)
	}
}

// grow builds a tree from an old one and holds all that becomes of disk and map against the chapter.
func grow(t *testing.T, d *disk.Disk, m *space.Map, old tree, l []api.Change) (tree, api.Errno) {
	t.Helper()
	cost := costOf(old.memory, l)
	mustCost(t, d, old.top, l, cost)
	if m.Free() < cost {
		mustNotBuild(t, d, m, old.top, l, api.ErrFull)
		return tree{}, api.ErrFull
	}
	ahead, used, acts := map[int][]byte{}, m.Used(), d.Acts()
	for _, n := range append([]int{0, 1}, used...) {
		ahead[n] = mustRead(t, d, n)
	}
	counts := holds(m, d.Len())
	top, e := Build(d, m, old.top, l)
	if e != api.OK || d.Acts()-acts != cost {
		t.Fatal("Build answers", top, e, "with", d.Acts()-acts, "acts, want", cost)
	}
	for n, was := range ahead {
		mustHave(t, d, n, was)
	}
	mustHoldNew(t, d, m, old.top, top, counts)
	next := tree{top, bytes.Clone(old.memory)}
	for _, c := range l {
		copy(next.memory[c.Page*64:], c.Data)
	}
	holdShared(t, d, m, old.top, top)
	return next, api.OK
}

// mustHoldNew asks that just the sectors that the new tree doesn't share with the old one are held once more than ahead, and weren't held then.
func mustHoldNew(t *testing.T, d *disk.Disk, m *space.Map, old, top int, want []int) {
	t.Helper()
	shared, _ := walk.Reach(d, old)
	fresh, e := walk.Reach(d, top)
	if e != api.OK {
		t.Fatal("the new tree isn't good:", e)
	}
	for _, n := range fresh {
		if slices.Contains(shared, n) {
			continue
		}
		if want[n]++; want[n] != 1 {
			t.Fatal("sector", n, "was held ahead")
		}
	}
	if got := holds(m, d.Len()); !slices.Equal(got, want) {
		t.Fatal("held:", got, "want", want)
	}
}

// holdShared holds what two trees share once more, so that either may go by itself.
func holdShared(t *testing.T, d *disk.Disk, m *space.Map, old, top int) {
	t.Helper()
	shared, _ := walk.Reach(d, old)
	fresh, _ := walk.Reach(d, top)
	for _, n := range fresh {
		if slices.Contains(shared, n) && m.Hold(n) != api.OK {
			t.Fatal("sector", n, "can't be held")
		}
	}
}

// fell lets go of all trees but one, and of that of 0.
func fell(t *testing.T, d *disk.Disk, m *space.Map, trees []tree, r *rand.Rand) []tree {
	t.Helper()
	keep := r.Intn(len(trees))
	for i, one := range trees {
		l, _ := walk.Reach(d, one.top)
		for _, n := range l {
			if i != keep && m.Drop(n) != api.OK {
				t.Fatal("sector", n, "isn't held")
			}
		}
	}
	return []tree{{0, make([]byte, 8192)}, trees[keep]}
}

func TestAnyBytesAndArguments(t *testing.T) { // P1: all calls end, also where the map holds nothing of the tree
	r := rand.New(rand.NewSource(8))
	for range 3000 {
		b := make([]byte, 64*(3+r.Intn(12)))
		for at := 0; at < len(b); at += 2 {
			if r.Intn(12) == 0 {
				b[at] = byte(r.Intn(len(b)/64 + 1))
			}
		}
		d, m := disk.Of(b), space.New(r.Intn(40))
		d.Arm(r.Intn(12) - 1)
		top, l := r.Intn(len(b)/64+2), anyChanges(r)
		cost, e := Cost(d, top, l)
		if _, reach := walk.Reach(d, top); e != reach || e != api.OK && cost != 0 {
			t.Fatal("Cost answers", cost, e)
		}
		free := m.Free()
		got, f := Build(d, m, top, l)
		if f != api.OK && got != 0 || e != api.OK && f != e || f == api.OK && free-m.Free() != cost {
			t.Fatal("Build answers", got, f, "Cost", cost, e)
		}
	}
}

func TestAlike(t *testing.T) { // P3: the same calls come to the same disk, however the maps within are gone through
	var want []byte
	for range 30 {
		d, m := disk.New(200), space.New(200)
		top, _ := Build(d, m, 0, changes(0, 127, 0, 64, 33, 32, 99, 5, 70))
		top, _ = Build(d, m, top, changes(9, 126, 1, 64, 34, 32, 99, 5, 71))
		d.Flush()
		got := append(d.Bytes(), byte(top))
		if want == nil {
			want = got
		}
		if !bytes.Equal(got, want) {
			t.Fatal("two disks differ")
		}
	}
}

func TestModelOfCosts(t *testing.T) { // what TestManyTrees leans on, held against plain cases
	memory := make([]byte, 8192)
	if n := costOf(memory, changes(0, 3, 40)); n != 5 {
		t.Fatal(n)
	}
	copy(memory[3*64:], fill(1))
	if n := costOf(memory, wipes(3)); n != 0 {
		t.Fatal(n)
	}
	if n := costOf(memory, wipes(40)); n != 1 {
		t.Fatal(n)
	}
}
