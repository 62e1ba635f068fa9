package space

import (
	"math"
	"math/rand"
	"slices"
	"testing"

	"carrel/api"
)

// sizes are those of maps, with the bounds of words of bits and of MaxDisk among them.
var sizes = []int{0, 1, 2, 3, 4, 8, 63, 64, 65, 66, 127, 128, 129, 130, 191, 192, 193, 500, api.MaxDisk - 1, api.MaxDisk}

// nowhere are numbers that no map has as a sector to hold.
var nowhere = []int{math.MinInt, math.MinInt + 2, -1 << 32, -1<<32 + 2, -2000, -128, -64, -62, -2, -1, 0, 1, api.MaxDisk, api.MaxDisk + 1, 1<<16 + 2, 1<<32 + 2, math.MaxInt - 1, math.MaxInt}

func mustBe(t *testing.T, what string, got, want api.Errno) {
	t.Helper()
	if got != want {
		t.Fatalf("%s: %d, want %d", what, got, want)
	}
}

func mustHold(t *testing.T, m *Map, list ...int) {
	t.Helper()
	for _, n := range list {
		mustBe(t, "Hold", m.Hold(n), api.OK)
	}
}

func mustDrop(t *testing.T, m *Map, list ...int) {
	t.Helper()
	for _, n := range list {
		mustBe(t, "Drop", m.Drop(n), api.OK)
	}
}

func mustTake(t *testing.T, m *Map, list ...int) {
	t.Helper()
	for _, want := range list {
		if n, e := m.Take(); n != want || e != api.OK {
			t.Fatalf("Take = %d, %d, want %d", n, e, want)
		}
	}
}

func mustBeFull(t *testing.T, m *Map) {
	t.Helper()
	if n, e := m.Take(); n != 0 || e != api.ErrFull {
		t.Fatalf("Take = %d, %d, want 0, ErrFull", n, e)
	}
}

// mustBeAs holds all that a map of so many sectors tells against how often each sector is held.
func mustBeAs(t *testing.T, m *Map, sectors int, held map[int]int) {
	t.Helper()
	used := []int{}
	for n := -3; n < sectors+70; n++ {
		if got := m.Count(n); got != held[n] {
			t.Fatalf("Count(%d) = %d, want %d", n, got, held[n])
		}
		if held[n] > 0 {
			used = append(used, n)
		}
	}
	if got := m.Used(); !slices.Equal(got, used) {
		t.Fatal("Used:", got, "want", used)
	}
	if got, want := m.Free(), max(sectors-2, 0)-len(used); got != want {
		t.Fatal("Free:", got, "want", want)
	}
}

// takeAll holds every sector that is left of a map and tells them.
func takeAll(t *testing.T, m *Map) []int {
	t.Helper()
	list := []int{}
	for range m.Free() {
		n, e := m.Take()
		mustBe(t, "Take", e, api.OK)
		list = append(list, n)
	}
	mustBeFull(t, m)
	return list
}

func fromFirst(sectors int) []int {
	list := []int{}
	for n := 2; n < sectors; n++ {
		list = append(list, n)
	}
	return list
}

func TestExampleOfTheChapter(t *testing.T) { // P5.3
	m := New(4)
	mustTake(t, m, 2, 3)
	mustBeFull(t, m)
	mustDrop(t, m, 2)
	mustTake(t, m, 2)
	mustBeFull(t, m)
}

func TestNewSizes(t *testing.T) { // P5.1
	for _, sectors := range sizes {
		m := New(sectors)
		mustBeAs(t, m, sectors, nil)
		if got, want := takeAll(t, m), fromFirst(sectors); !slices.Equal(got, want) {
			t.Fatal("New of", sectors, "has", got, "want", want)
		}
	}
}

func TestNewOutside(t *testing.T) { // P5.1: below 0: 0; above MaxDisk: that
	for _, sectors := range []int{math.MinInt, math.MinInt + 1, -1 << 32, -2000, -3, -2, -1} {
		m := New(sectors)
		mustBeAs(t, m, 0, nil)
		mustBeFull(t, m)
		mustBe(t, "Hold", m.Hold(2), api.ErrRange)
		mustBe(t, "Drop", m.Drop(2), api.ErrRange)
	}
	for _, sectors := range []int{2001, 2047, 2048, 2049, 1 << 16, 1<<32 + 5, math.MaxInt - 1, math.MaxInt} {
		m := New(sectors)
		mustBeAs(t, m, 2000, nil)
		mustBe(t, "Hold", m.Hold(1999), api.OK)
		mustBe(t, "Hold", m.Hold(2000), api.ErrRange)
		mustBeAs(t, m, 2000, map[int]int{1999: 1})
	}
}

func TestMapsThatNobodyMade(t *testing.T) { // P5.1
	for _, m := range []*Map{nil, {}, new(Map)} {
		for _, n := range append([]int{2, 3, 64, 1999}, nowhere...) {
			mustBe(t, "Hold", m.Hold(n), api.ErrRange)
			mustBe(t, "Drop", m.Drop(n), api.ErrRange)
			if m.Count(n) != 0 {
				t.Error("Count of", n, "answers", m.Count(n))
			}
		}
		mustBeFull(t, m)
		if m.Free() != 0 || len(m.Used()) != 0 || m.Copy() != nil {
			t.Error(m.Free(), m.Used(), m.Copy())
		}
	}
}

func TestHoldAndDrop(t *testing.T) { // P5.2
	for _, n := range []int{2, 3, 62, 63, 64, 65, 127, 128, 129} {
		m, held := New(130), map[int]int{}
		for range 5 {
			mustHold(t, m, n)
			held[n]++
			mustBeAs(t, m, 130, held)
		}
		for range 5 {
			mustDrop(t, m, n)
			held[n]--
			mustBeAs(t, m, 130, held)
		}
		mustBe(t, "Drop", m.Drop(n), api.ErrNone)
		mustBeAs(t, m, 130, nil)
	}
}

func TestHoldAllSectors(t *testing.T) { // P5.2, P5.4
	for _, sectors := range sizes {
		m, held := New(sectors), map[int]int{}
		for n := sectors - 1; n >= 2; n-- {
			mustHold(t, m, n)
			held[n] = 1
		}
		mustBeAs(t, m, sectors, held)
		mustBeFull(t, m)
		mustBeAs(t, m, sectors, held)
	}
}

func TestDropOfWhatIsNotHeld(t *testing.T) { // P5.2
	m := New(130)
	mustHold(t, m, 64, 64, 9)
	for n := 2; n < 130; n++ {
		if n != 64 && n != 9 {
			mustBe(t, "Drop", m.Drop(n), api.ErrNone)
		}
	}
	mustBeAs(t, m, 130, map[int]int{64: 2, 9: 1})
	mustTake(t, m, 2, 3)
}

func TestNoSuchSector(t *testing.T) { // P5.2, P4: an error changes nothing
	for _, sectors := range sizes {
		m, held := New(sectors), map[int]int{}
		if sectors > 2 {
			mustHold(t, m, 2)
			held[2] = 1
		}
		for _, n := range append([]int{sectors, sectors + 1, sectors + 63, sectors + 64}, nowhere...) {
			mustBe(t, "Hold", m.Hold(n), api.ErrRange)
			mustBe(t, "Drop", m.Drop(n), api.ErrRange)
			if m.Count(n) != 0 {
				t.Fatal("Count of", n, "answers", m.Count(n))
			}
		}
		mustBeAs(t, m, sectors, held)
	}
}

func TestRootsAreNeverFreeAndNeverHeld(t *testing.T) { // the chapter's head
	m := New(8)
	for _, n := range []int{0, 1} {
		mustBe(t, "Hold", m.Hold(n), api.ErrRange)
		mustBe(t, "Drop", m.Drop(n), api.ErrRange)
	}
	mustBeAs(t, m, 8, nil)
	if got := takeAll(t, m); !slices.Equal(got, []int{2, 3, 4, 5, 6, 7}) {
		t.Fatal(got)
	}
	for _, sectors := range []int{0, 1, 2} {
		mustBeFull(t, New(sectors))
	}
}

func TestTakeTheLowest(t *testing.T) { // P5.3
	m := New(200)
	mustHold(t, m, 2, 4, 4)
	mustTake(t, m, 3, 5)
	for n := 6; n < 190; n++ {
		mustHold(t, m, n)
	}
	mustTake(t, m, 190)
	mustDrop(t, m, 130, 128, 64, 63, 4)
	mustTake(t, m, 63, 64, 128, 130, 191)
	mustDrop(t, m, 4)
	mustTake(t, m, 4, 192)
	if m.Count(4) != 1 || m.Count(63) != 1 || m.Count(192) != 1 {
		t.Fatal("what was taken is held", m.Count(4), m.Count(63), m.Count(192))
	}
}

func TestTakeAndHoldOnceMore(t *testing.T) { // P5.3: held once, as by Hold
	m := New(5)
	mustTake(t, m, 2)
	mustHold(t, m, 2)
	mustDrop(t, m, 2)
	mustTake(t, m, 3)
	mustDrop(t, m, 2)
	mustTake(t, m, 2, 4)
	mustBeFull(t, m)
	mustBeAs(t, m, 5, map[int]int{2: 1, 3: 1, 4: 1})
}

func TestFullChangesNothing(t *testing.T) { // P5.3, P4
	for _, sectors := range []int{3, 64, 65, 66, 130, api.MaxDisk} {
		m, held := New(sectors), map[int]int{}
		for _, n := range takeAll(t, m) {
			held[n] = 1
		}
		for range 3 {
			mustBeFull(t, m)
		}
		mustBeAs(t, m, sectors, held)
		mustDrop(t, m, sectors-1)
		mustTake(t, m, sectors-1)
		mustBeFull(t, m)
	}
}

func TestUsedRises(t *testing.T) { // P5.4
	m := New(api.MaxDisk)
	mustHold(t, m, 1999, 64, 2, 130, 63, 1999, 65, 128, 3)
	want := []int{2, 3, 63, 64, 65, 128, 130, 1999}
	if got := m.Used(); !slices.Equal(got, want) {
		t.Fatal("Used:", got, "want", want)
	}
}

func TestUsedIsNewMemory(t *testing.T) { // P2
	m := New(80)
	mustHold(t, m, 5, 70)
	a, b := m.Used(), m.Used()
	room := a[:cap(a)]
	for i := range room {
		room[i] = 7
	}
	if !slices.Equal(b, []int{5, 70}) {
		t.Fatal("two answers share memory:", b)
	}
	mustBeAs(t, m, 80, map[int]int{5: 1, 70: 1})
	mustDrop(t, m, 5)
	if !slices.Equal(b, []int{5, 70}) {
		t.Fatal("an answer follows the map:", b)
	}
}

func TestCopyIsAlike(t *testing.T) { // P5.5
	for _, sectors := range sizes {
		m, held := New(sectors), map[int]int{}
		for n := 2; n < sectors; n += 1 + n%5 {
			mustHold(t, m, n, n)
			held[n] = 2
		}
		c := m.Copy()
		if c == nil || c == m {
			t.Fatal("Copy of", sectors, "sectors answers", c)
		}
		mustBeAs(t, c, sectors, held)
		again := c.Copy()
		if again == nil {
			t.Fatal("Copy of a copy of", sectors, "sectors answers none")
		}
		mustBeAs(t, again, sectors, held)
		if got, want := takeAll(t, c), takeAll(t, m); !slices.Equal(got, want) {
			t.Fatal("a copy takes", got, "the map", want)
		}
	}
}

func TestCopyIsForItself(t *testing.T) { // P5.5
	m := New(130)
	mustHold(t, m, 2, 64, 64)
	c := m.Copy()
	was := map[int]int{2: 1, 64: 2}
	mustTake(t, m, 3)
	mustDrop(t, m, 2, 64, 64)
	mustBeAs(t, c, 130, was)
	d := c.Copy()
	mustHold(t, c, 129, 2)
	mustTake(t, c, 3, 4)
	mustBeAs(t, m, 130, map[int]int{3: 1})
	mustBeAs(t, d, 130, was)
	mustBeAs(t, c, 130, map[int]int{2: 2, 3: 1, 4: 1, 64: 2, 129: 1})
}

// model tells what a map should answer, sector by sector.
type model struct {
	sectors int
	held    map[int]int
}

func (m *model) hold(n int) api.Errno {
	if n < 2 || n >= m.sectors {
		return api.ErrRange
	}
	m.held[n]++
	return api.OK
}

func (m *model) drop(n int) api.Errno {
	if n < 2 || n >= m.sectors {
		return api.ErrRange
	}
	if m.held[n] == 0 {
		return api.ErrNone
	}
	m.held[n]--
	return api.OK
}

func (m *model) take() (int, api.Errno) {
	for n := 2; n < m.sectors; n++ {
		if m.held[n] == 0 {
			return n, m.hold(n)
		}
	}
	return 0, api.ErrFull
}

// mustDoAlike does one act with both and holds the answers against each other.
func mustDoAlike(t *testing.T, m *Map, want *model, act, n int) {
	t.Helper()
	switch act {
	case 0:
		mustBe(t, "Hold", m.Hold(n), want.hold(n))
	case 1:
		mustBe(t, "Drop", m.Drop(n), want.drop(n))
	default:
		got, e := m.Take()
		at, f := want.take()
		if got != at || e != f {
			t.Fatalf("Take = %d, %d, want %d, %d", got, e, at, f)
		}
	}
}

func TestEachOnce(t *testing.T) { // P5.6, with P5.2 to P5.5, by long runs
	r := rand.New(rand.NewSource(5))
	for _, sectors := range []int{0, 1, 2, 3, 5, 40, 64, 66, 67, 130} {
		m, want := New(sectors), &model{sectors, map[int]int{}}
		for i := range 600 {
			mustDoAlike(t, m, want, r.Intn(3), r.Intn(sectors+6)-3)
			if m.Free()+len(m.Used()) != max(sectors-2, 0) {
				t.Fatal("of", sectors, "sectors", m.Free(), "are free,", m.Used(), "used")
			}
			if i%50 == 0 {
				m = m.Copy()
			}
			mustBeAs(t, m, sectors, want.held)
		}
	}
}
