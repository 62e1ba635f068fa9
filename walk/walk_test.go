package walk

import (
	"bytes"
	"encoding/binary"
	"math"
	"math/rand"
	"slices"
	"testing"

	"carrel/api"
	"carrel/disk"
)

// nowhere are numbers on which no tree may stand, whatever the disk; 0 is left out, since it is the tree without anything.
var nowhere = []int{math.MinInt, math.MinInt + 2, -1 << 32, -1<<32 + 2, -65534, -64, -2, -1, 1, api.MaxDisk, 65535, 65538, 1<<16 + 2, 1<<32 + 2, math.MaxInt - 1, math.MaxInt}

// entries are a node's by their places; the others are 0.
type entries map[int]int

// lay is a node's bytes told by the chapter's words.
func lay(l entries) []byte {
	b := make([]byte, 64)
	for at, sector := range l {
		binary.LittleEndian.PutUint16(b[2*at:], uint16(sector))
	}
	return b
}

// fill is a page's bytes that tell of its sector, no two neighbours alike.
func fill(sector int) []byte {
	b := make([]byte, 64)
	for i := range b {
		b[i] = byte(sector*29 + i*3 + 1)
	}
	return b
}

func mustWrite(t *testing.T, d *disk.Disk, n int, b []byte) {
	t.Helper()
	if e := d.Write(n, b); e != api.OK {
		t.Fatal("Write of", n, "answers", e)
	}
}

// diskOf has those nodes, and on all other sectors, the roots' among them, what fill tells.
func diskOf(t *testing.T, sectors int, nodes map[int]entries) *disk.Disk {
	t.Helper()
	d := disk.New(sectors)
	for n := range sectors {
		if l, ok := nodes[n]; ok {
			mustWrite(t, d, n, lay(l))
		} else {
			mustWrite(t, d, n, fill(n))
		}
	}
	return d
}

// small is a disk of 20 sectors with a good tree: its top on 9, two leaves on 4 and 12, three pages.
func small(t *testing.T) *disk.Disk {
	t.Helper()
	return diskOf(t, 20, map[int]entries{9: {0: 4, 2: 12}, 4: {3: 19, 30: 2}, 12: {0: 11}})
}

// full is a disk with a tree of all pages, whose sectors fall from the disk's last one on; the leaves are empty where bare.
func full(t *testing.T, bare bool) (*disk.Disk, int) {
	t.Helper()
	next := 200
	take := func() int {
		next--
		return next
	}
	top := take()
	nodes := map[int]entries{top: {}}
	for i := range 4 {
		leaf := take()
		nodes[top][i], nodes[leaf] = leaf, entries{}
		for j := range 32 {
			if !bare {
				nodes[leaf][j] = take()
			}
		}
	}
	return diskOf(t, 200, nodes), top
}

func mustReach(t *testing.T, d *disk.Disk, top int, want ...int) {
	t.Helper()
	if got, e := Reach(d, top); e != api.OK || !slices.Equal(got, want) {
		t.Fatal("Reach of", top, "answers", got, e, "want", want)
	}
}

func mustFind(t *testing.T, d *disk.Disk, top, page, want int) {
	t.Helper()
	if got, e := Find(d, top, page); e != api.OK || got != want {
		t.Fatal("Find of page", page, "in", top, "answers", got, e, "want", want)
	}
}

// mustLoad holds the memory against the sectors of its pages; the others are noughts.
func mustLoad(t *testing.T, d *disk.Disk, top int, pages map[int]int) {
	t.Helper()
	want := make([]byte, 8192)
	for page, sector := range pages {
		b, e := d.Read(sector)
		if e != api.OK {
			t.Fatal("Read of", sector, "answers", e)
		}
		copy(want[page*64:], b)
	}
	if got, e := Load(d, top); e != api.OK || !bytes.Equal(got, want) {
		t.Fatal("Load of", top, "answers", got, e, "want", want)
	}
}

// mustFail holds all three calls to one error, with nothing beside it.
func mustFail(t *testing.T, d *disk.Disk, top int, want api.Errno) {
	t.Helper()
	if list, e := Reach(d, top); e != want || list != nil {
		t.Fatal("Reach of", top, "answers", list, e, "want", want)
	}
	for _, page := range []int{0, 1, 31, 32, 70, 127} {
		if sector, e := Find(d, top, page); e != want || sector != 0 {
			t.Fatal("Find of page", page, "in", top, "answers", sector, e, "want", want)
		}
	}
	if memory, e := Load(d, top); e != want || memory != nil {
		t.Fatal("Load of", top, "answers", len(memory), "bytes,", e, "want", want)
	}
}

func TestExamplesOfTheChapter(t *testing.T) { // P6.1
	d := disk.New(8)
	mustReach(t, d, 0)
	mustReach(t, d, 2, 2)
}

func TestTreeWithoutAnything(t *testing.T) { // P6.1 to P6.3: sector 0 isn't read
	for _, d := range []*disk.Disk{disk.New(0), disk.New(1), disk.New(2), disk.New(8), small(t), disk.Of(bytes.Repeat([]byte{255}, 640))} {
		mustReach(t, d, 0)
		mustLoad(t, d, 0, nil)
		for page := range 128 {
			mustFind(t, d, 0, page, 0)
		}
	}
}

func TestReach(t *testing.T) { // P6.1: the order is that of the entries, not of the sectors
	d := small(t)
	mustReach(t, d, 9, 9, 4, 19, 2, 12, 11)
	// A leaf's bytes taken as a top have entries past the first four.
	mustFail(t, d, 4, api.ErrTree)
	mustWrite(t, d, 11, lay(entries{31: 5}))
	mustReach(t, d, 12, 12, 11, 5)
	mustReach(t, d, 9, 9, 4, 19, 2, 12, 11)
}

func TestFind(t *testing.T) { // P6.2
	d, want := small(t), map[int]int{3: 19, 30: 2, 64: 11}
	for page := range 128 {
		mustFind(t, d, 9, page, want[page])
	}
}

func TestLoad(t *testing.T) { // P6.3, P6.4
	mustLoad(t, small(t), 9, map[int]int{3: 19, 30: 2, 64: 11})
	memory, _ := Load(small(t), 9)
	if memory[3*64] != fill(19)[0] || memory[3*64+63] != fill(19)[63] || memory[4*64] != 0 || memory[3*64-1] != 0 {
		t.Fatal(memory[3*64-1 : 4*64+1])
	}
}

func TestTopWithoutLeavesAndLeavesWithoutPages(t *testing.T) { // P6.1 to P6.3
	d := diskOf(t, 8, map[int]entries{3: {}, 5: {1: 7}, 7: {}})
	mustReach(t, d, 3, 3)
	mustReach(t, d, 5, 5, 7)
	mustLoad(t, d, 3, nil)
	mustLoad(t, d, 5, nil)
	mustFind(t, d, 5, 32, 0)
	bare, top := full(t, true)
	mustReach(t, bare, top, 199, 198, 197, 196, 195)
	mustLoad(t, bare, top, nil)
}

func TestAllPages(t *testing.T) { // P6.1 to P6.4: 133 sectors
	d, top := full(t, false)
	want, pages := []int{}, map[int]int{}
	for n := 199; n >= 67; n-- {
		want = append(want, n)
	}
	for page := range 128 {
		pages[page] = 197 - page - page/32
		mustFind(t, d, top, page, pages[page])
	}
	mustReach(t, d, top, want...)
	mustLoad(t, d, top, pages)
}

func TestAllIsThere(t *testing.T) { // P6.4: each page by itself, on the first and the last sectors
	for page := range 128 {
		for _, sectors := range [][3]int{{2, 3, 4}, {4, 2, 3}, {9, 8, 2}, {2, 9, 8}} {
			top, leaf, at := sectors[0], sectors[1], sectors[2]
			d := diskOf(t, 10, map[int]entries{top: {page / 32: leaf}, leaf: {page % 32: at}})
			mustReach(t, d, top, top, leaf, at)
			mustLoad(t, d, top, map[int]int{page: at})
			mustFind(t, d, top, page, at)
			mustFind(t, d, top, (page+1)%128, 0)
			mustFind(t, d, top, (page+32)%128, 0)
		}
	}
}

func TestPageOfNoughts(t *testing.T) { // P6.1, P6.2: its sector is reached all the same
	d := small(t)
	mustWrite(t, d, 19, make([]byte, 64))
	mustReach(t, d, 9, 9, 4, 19, 2, 12, 11)
	mustFind(t, d, 9, 3, 19)
	mustLoad(t, d, 9, map[int]int{30: 2, 64: 11})
}

func TestTopsThatMayNotBe(t *testing.T) { // P6.1: the top, too, is a sector of the disk from First on
	for _, sectors := range []int{0, 1, 2, 3, 8, 64} {
		d := disk.New(sectors)
		for _, top := range append([]int{sectors + 2, sectors + 64}, nowhere...) {
			mustFail(t, d, top, api.ErrTree)
		}
		for top := 2; top < sectors; top++ {
			mustReach(t, d, top, top)
		}
		for top := max(sectors, 1); top < 70; top++ {
			mustFail(t, d, top, api.ErrTree)
		}
	}
	d := disk.New(api.MaxDisk)
	mustReach(t, d, api.MaxDisk-1, api.MaxDisk-1)
	mustFail(t, d, api.MaxDisk, api.ErrTree)
}

func TestEntriesThatMayNotBe(t *testing.T) { // P6.1: each entry of the top and of a leaf
	wrong := []int{1, 10, 11, 64, 266, 1999, 2000, 32768, 65535}
	for _, sector := range wrong {
		for i := range 4 {
			d := diskOf(t, 10, map[int]entries{9: {i: sector}})
			mustFail(t, d, 9, api.ErrTree)
		}
		for j := range 32 {
			d := diskOf(t, 10, map[int]entries{9: {j % 4: 8}, 8: {j: sector, (j + 5) % 32: 7}})
			mustFail(t, d, 9, api.ErrTree)
		}
	}
	d := diskOf(t, 10, map[int]entries{8: {0: 9}, 9: {31: 2}})
	mustReach(t, d, 8, 8, 9, 2)
}

func TestTopsEntriesPastTheFourth(t *testing.T) { // P6.1: also of leaves without pages, and of numbers that may be no sector
	for i := 4; i < 32; i++ {
		for _, sector := range []int{1, 4, 5, 9, 10, 65535} {
			d := diskOf(t, 10, map[int]entries{9: {0: 6, i: sector}, 6: {1: 7}, 4: {}, 5: {0: 3}})
			mustFail(t, d, 9, api.ErrTree)
		}
	}
	for i := range 4 {
		d := diskOf(t, 10, map[int]entries{9: {i: 4}, 4: {}})
		mustReach(t, d, 9, 9, 4)
	}
}

func TestSectorsThatAreReachedTwice(t *testing.T) { // P6.1
	cases := map[string]map[int]entries{
		"the top as its leaf":             {9: {2: 9}},
		"the top as a page":               {9: {0: 4}, 4: {7: 9}},
		"a leaf as its own page":          {9: {0: 4}, 4: {7: 4}},
		"a leaf as a page of a later one": {9: {0: 4, 1: 5}, 4: {7: 2}, 5: {0: 4}},
		"a page that is a leaf later":     {9: {0: 4, 3: 5}, 4: {7: 5}, 5: {}},
		"a leaf twice":                    {9: {0: 4, 3: 4}, 4: {7: 2}},
		"a leaf without pages twice":      {9: {1: 4, 2: 4}, 4: {}},
		"a page twice in a leaf":          {9: {0: 4}, 4: {0: 2, 31: 2}},
		"a page twice, side by side":      {9: {0: 4}, 4: {12: 2, 13: 2}},
		"a page in two leaves":            {9: {0: 4, 1: 5}, 4: {7: 2}, 5: {7: 2}},
		"the last of all":                 {9: {0: 4, 1: 5, 2: 6, 3: 7}, 4: {0: 2}, 5: {}, 6: {}, 7: {31: 2}},
	}
	for name, nodes := range cases {
		t.Run(name, func(t *testing.T) {
			mustFail(t, diskOf(t, 10, nodes), 9, api.ErrTree)
		})
	}
}

func TestFaultsAreFoundForEachPage(t *testing.T) { // P6.2: Reach's error, wherever the page and the fault are
	for _, nodes := range []map[int]entries{
		{9: {0: 4, 3: 5}, 4: {0: 2}, 5: {31: 1}},
		{9: {0: 4, 3: 5}, 4: {0: 1}, 5: {31: 2}},
		{9: {0: 4, 4: 5}, 4: {0: 2}, 5: {}},
	} {
		d := diskOf(t, 10, nodes)
		for page := range 128 {
			if sector, e := Find(d, 9, page); e != api.ErrTree || sector != 0 {
				t.Fatal("Find of page", page, "answers", sector, e)
			}
		}
	}
}

func TestTwoTreesMayShare(t *testing.T) { // P6.1: twice is told tree by tree
	d := diskOf(t, 12, map[int]entries{9: {0: 4, 1: 5}, 10: {0: 4, 1: 6}, 4: {7: 2}, 5: {0: 3}, 6: {0: 3}})
	for range 2 {
		mustReach(t, d, 9, 9, 4, 2, 5, 3)
		mustReach(t, d, 10, 10, 4, 2, 6, 3)
	}
}

func TestNoSuchPage(t *testing.T) { // P6.2: ahead of Reach's error
	down := small(t)
	down.Arm(0)
	down.Flush()
	for _, page := range []int{math.MinInt, math.MinInt + 3, -1 << 32, -128, -32, -2, -1, 128, 129, 160, 8192, 1<<32 + 3, math.MaxInt} {
		for _, d := range []*disk.Disk{small(t), down, nil, disk.New(0)} {
			for _, top := range []int{0, 1, 4, 9, 20, -1} {
				if sector, e := Find(d, top, page); e != api.ErrRange || sector != 0 {
					t.Fatal("Find of page", page, "in", top, "answers", sector, e)
				}
			}
		}
	}
}

func TestDiskThatIsDown(t *testing.T) { // P6.1: ahead of ErrTree
	d := small(t)
	d.Flush()
	d.Arm(0)
	mustReach(t, d, 9, 9, 4, 19, 2, 12, 11) // reading is no act
	d.Flush()
	var value disk.Disk
	for _, down := range []*disk.Disk{d, nil, new(disk.Disk), &value} {
		for _, top := range append([]int{0, 2, 4, 9, 20}, nowhere...) {
			mustFail(t, down, top, api.ErrDown)
		}
	}
	d.Restart(api.Fate{Torn: -1})
	mustReach(t, d, 9, 9, 4, 19, 2, 12, 11)
}

func TestWhatWaitsIsRead(t *testing.T) { // P6.1, P6.4: a tree is told by what was last written
	d := small(t)
	d.Flush()
	mustWrite(t, d, 4, lay(entries{5: 8}))
	mustWrite(t, d, 8, fill(77))
	mustReach(t, d, 9, 9, 4, 8, 12, 11)
	mustLoad(t, d, 9, map[int]int{5: 8, 64: 11})
	d.Restart(api.Fate{Torn: -1})
	mustReach(t, d, 9, 9, 4, 19, 2, 12, 11)
	mustLoad(t, d, 9, map[int]int{3: 19, 30: 2, 64: 11})
}

func TestTheDiskStays(t *testing.T) { // P2
	d := small(t)
	was, acts, waiting := d.Bytes(), d.Acts(), d.Waiting()
	for _, top := range []int{0, 9, 4, 1, 20} {
		Reach(d, top)
		Find(d, top, 3)
		Load(d, top)
	}
	if !bytes.Equal(d.Bytes(), was) || d.Acts() != acts || !slices.Equal(d.Waiting(), waiting) {
		t.Fatal("the disk changed:", d.Acts(), d.Waiting())
	}
}

func TestAnswersAreNewMemory(t *testing.T) { // P2
	d, pages := small(t), map[int]int{3: 19, 30: 2, 64: 11}
	list, _ := Reach(d, 9)
	list = list[:cap(list)]
	for i := range list {
		list[i] = 1
	}
	mustReach(t, d, 9, 9, 4, 19, 2, 12, 11)
	a, _ := Load(d, 9)
	b, _ := Load(d, 9)
	was := bytes.Clone(b)
	a = a[:cap(a)]
	for i := range a {
		a[i] ^= 0xFF
	}
	if !bytes.Equal(b, was) {
		t.Fatal("two answers share memory")
	}
	mustLoad(t, d, 9, pages)
	mustWrite(t, d, 19, fill(50))
	if !bytes.Equal(b, was) {
		t.Fatal("an answer follows the disk")
	}
	mustLoad(t, d, 9, pages)
}

// model is a tree told by the chapter's words from a disk's bytes.
type model struct {
	list  []int
	pages map[int]int
	good  bool
}

func modelOf(b []byte, top int) model {
	m := model{pages: map[int]int{}, good: true}
	if top == 0 {
		return m
	}
	m.add(b, top)
	for i := 0; i < 32 && m.good; i++ {
		leaf := entryOf(b, top, i)
		if leaf == 0 {
			continue
		}
		m.good = i < 4
		m.add(b, leaf)
		for j := 0; j < 32 && m.good; j++ {
			if sector := entryOf(b, leaf, j); sector != 0 {
				m.add(b, sector)
				m.pages[32*i+j] = sector
			}
		}
	}
	return m
}

func (m *model) add(b []byte, sector int) {
	if sector < 2 || sector >= len(b)/64 || slices.Contains(m.list, sector) {
		m.good = false
	}
	m.list = append(m.list, sector)
}

func entryOf(b []byte, sector, at int) int {
	return int(binary.LittleEndian.Uint16(b[64*sector+2*at:]))
}

func mustBeAs(t *testing.T, d *disk.Disk, top int, want model) {
	t.Helper()
	if !want.good {
		mustFail(t, d, top, api.ErrTree)
		return
	}
	mustReach(t, d, top, want.list...)
	mustLoad(t, d, top, want.pages)
	for page := range 128 {
		mustFind(t, d, top, page, want.pages[page])
	}
}

// anyTree lays a tree over mixed sectors, with a fault now and then, and tells its top.
func anyTree(r *rand.Rand, b []byte) int {
	free := r.Perm(len(b)/64 - 2)
	take := func() int {
		n := free[0] + 2
		if free = free[1:]; r.Intn(60) == 0 {
			return r.Intn(len(b)/64 + 4)
		}
		return n
	}
	put := func(sector, at, n int) { binary.LittleEndian.PutUint16(b[64*sector+2*at:], uint16(n)) }
	top := free[len(free)-1] + 2
	clear(b[64*top:][:64])
	for i := range 4 {
		if r.Intn(3) == 0 {
			continue
		}
		leaf := free[0] + 2
		put(top, i, take())
		clear(b[64*leaf:][:64])
		for j := range 32 {
			if r.Intn(3) == 0 {
				put(leaf, j, take())
			}
		}
	}
	return top
}

func TestManyTrees(t *testing.T) { // P6.1 to P6.4, against the model
	r := rand.New(rand.NewSource(6))
	good, bad := 0, 0
	for range 500 {
		b := make([]byte, 64*180)
		r.Read(b)
		top := anyTree(r, b)
		want := modelOf(b, top)
		if want.good {
			good++
		} else {
			bad++
		}
		mustBeAs(t, disk.Of(b), top, want)
	}
	if good < 100 || bad < 20 {
		t.Fatal("of the trees", good, "are good,", bad, "are not")
	}
}

func TestDisksOfAnyBytes(t *testing.T) { // P1: whatever stands there; few numbers, so that trees often come near to good ones
	r := rand.New(rand.NewSource(7))
	for range 2000 {
		b := make([]byte, 64*(3+r.Intn(12)))
		for at := 0; at < len(b); at += 2 {
			if r.Intn(12) == 0 {
				b[at] = byte(r.Intn(len(b)/64 + 1))
			}
		}
		if r.Intn(2) == 0 {
			clear(b[64*2+8 : 64*3])
		}
		d := disk.Of(b)
		for top := 2; top < len(b)/64; top++ {
			mustBeAs(t, d, top, modelOf(b, top))
		}
	}
}
