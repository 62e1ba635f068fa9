package extent

import (
	"math"
	"math/rand"
	"slices"
	"testing"

	"carrel/api"
)

const (
	first = api.FirstBlock
	last  = api.Blocks - 1
	many  = api.Blocks - api.FirstBlock
)

// edges are numbers at the bounds of blocks, and such that sums of them wrap round.
var edges = []int{math.MinInt, math.MinInt + 1, math.MinInt + 9, -1 << 32, -1<<32 + 9, -32, -9, -1, 0, 1, 2, 7, 8, 9, 10, 22, 23, 24, 30, 31, 32, 33, 40, 41, 63, 64, 1<<32 + 1, 1<<32 + 9, math.MaxInt - 31, math.MaxInt - 9, math.MaxInt - 8, math.MaxInt - 1, math.MaxInt}

// list makes a list of extents of pairs of numbers.
func list(pairs ...int) []api.Extent {
	l := []api.Extent{}
	for i := 0; i+1 < len(pairs); i += 2 {
		l = append(l, api.Extent{Start: pairs[i], Len: pairs[i+1]})
	}
	return l
}

// wrong are lists that Check refuses.
func wrong() [][]api.Extent {
	return [][]api.Extent{
		list(8, 1), list(32, 1), list(31, 2), list(9, 24), list(9, 0), list(9, -1), list(0, 0), list(-1, 1),
		list(9, 1, 9, 1), list(9, 3, 11, 1), list(11, 1, 9, 3), list(9, 1, 20, 1, 9, 1), list(20, 1, 9, 23),
		list(9, 1, 10, 1), list(12, 1, 9, 1, 10, 2), list(9, 1, 11, 0), list(9, 1, 32, 1), list(8, 1, 9, 1),
		list(math.MaxInt, 1), list(9, math.MaxInt), list(math.MinInt, math.MinInt), list(math.MaxInt, math.MaxInt),
	}
}

// blocksOf is the model: a list of extents as its blocks, one by one, and whether the list may be.
func blocksOf(l []api.Extent) ([]int, bool) {
	all := []int{}
	for i, x := range l {
		if x.Start < first || x.Start > last || x.Len < 1 || x.Len > many {
			return nil, false
		}
		if i > 0 && l[i-1].Start+l[i-1].Len == x.Start {
			return nil, false
		}
		for n := x.Start; n < x.Start+x.Len; n++ {
			if n > last || slices.Contains(all, n) {
				return nil, false
			}
			all = append(all, n)
		}
	}
	return all, true
}

// joined is the model's way back: blocks as a list of extents.
func joined(blocks []int) []api.Extent {
	l := []api.Extent{}
	for i, n := range blocks {
		if i > 0 && blocks[i-1]+1 == n {
			l[len(l)-1].Len++
		} else {
			l = append(l, api.Extent{Start: n, Len: 1})
		}
	}
	return l
}

func setOf(blocks []int) uint32 {
	set := uint32(0)
	for _, n := range blocks {
		set |= 1 << n
	}
	return set
}

// freeOf is the model's list of blocks that aren't used, rising.
func freeOf(used uint32) []int {
	free := []int{}
	for n := first; n <= last; n++ {
		if used>>n&1 == 0 {
			free = append(free, n)
		}
	}
	return free
}

// mustBeAsModel holds Check, Total, Block and Bits of a list against the model.
func mustBeAsModel(t *testing.T, l []api.Extent) {
	t.Helper()
	all, fits := blocksOf(l)
	want := api.OK
	if !fits {
		want = api.ErrRange
	}
	if e := Check(l); e != want {
		t.Fatal("Check of", l, "answers", e)
	}
	if Total(l) != len(all) || Bits(l) != setOf(all) {
		t.Fatal("Total, Bits of", l, "answer", Total(l), Bits(l))
	}
	for n := -2; n < len(all)+3; n++ {
		mustHave(t, l, n, all)
	}
	for _, n := range edges {
		mustHave(t, l, n, all)
	}
}

func mustHave(t *testing.T, l []api.Extent, n int, all []int) {
	t.Helper()
	want, wantE := 0, api.ErrRange
	if n >= 0 && n < len(all) {
		want, wantE = all[n], api.OK
	}
	if got, e := Block(l, n); got != want || e != wantE {
		t.Fatal("Block", n, "of", l, "answers", got, e, "want", want, wantE)
	}
}

func mustGrow(t *testing.T, l []api.Extent, used uint32, n int, want []api.Extent, wantUsed uint32) {
	t.Helper()
	if got, set, e := Grow(l, used, n); !slices.Equal(got, want) || set != wantUsed || e != api.OK {
		t.Fatal("Grow of", l, used, n, "answers", got, set, e, "want", want, wantUsed)
	}
}

func mustNotGrow(t *testing.T, l []api.Extent, used uint32, n int, want api.Errno) {
	t.Helper()
	if got, set, e := Grow(l, used, n); len(got) != 0 || set != 0 || e != want {
		t.Fatal("Grow of", l, used, n, "answers", got, set, e, "want", want)
	}
}

func mustShrink(t *testing.T, l []api.Extent, used uint32, n int, want []api.Extent, wantUsed uint32) {
	t.Helper()
	if got, set, e := Shrink(l, used, n); !slices.Equal(got, want) || set != wantUsed || e != api.OK {
		t.Fatal("Shrink of", l, used, n, "answers", got, set, e, "want", want, wantUsed)
	}
}

func mustNotShrink(t *testing.T, l []api.Extent, used uint32, n int) {
	t.Helper()
	if got, set, e := Shrink(l, used, n); len(got) != 0 || set != 0 || e != api.ErrRange {
		t.Fatal("Shrink of", l, used, n, "answers", got, set, e)
	}
}

// someList makes a list that may be: blocks in any order, those side by side in one extent.
func someList(r *rand.Rand) []api.Extent {
	all := freeOf(0)
	switch r.Intn(3) {
	case 0:
		r.Shuffle(len(all), func(i, j int) { all[i], all[j] = all[j], all[i] })
	case 1:
		at := r.Intn(len(all))
		all = append(slices.Clone(all[at:]), all[:at]...)
	}
	return joined(all[:r.Intn(len(all)+1)])
}

func TestExampleOfTheChapter(t *testing.T) { // P10.3
	mustGrow(t, nil, 0, 2, list(9, 2), 1<<9|1<<10)
	mustGrow(t, nil, 1024, 2, list(9, 1, 11, 1), 1024|1<<9|1<<11)
}

func TestCheckOfOneExtent(t *testing.T) { // P10.1
	for _, start := range edges {
		for _, size := range edges {
			mustBeAsModel(t, list(start, size))
		}
	}
	for start := -3; start < 70; start++ {
		for size := -3; size < 70; size++ {
			mustBeAsModel(t, list(start, size))
		}
	}
}

func TestCheckOfTwoExtents(t *testing.T) { // P10.1
	for a := 8; a < 14; a++ {
		for n := 0; n < 5; n++ {
			for b := 8; b < 20; b++ {
				for m := 0; m < 5; m++ {
					mustBeAsModel(t, list(a, n, b, m))
					mustBeAsModel(t, list(30, 2, a, n, b, m))
					mustBeAsModel(t, list(a, n, 28, 1, b, m))
				}
			}
		}
	}
}

func TestCheckOfWrongLists(t *testing.T) { // P10.1, P10.2: of others: 0; ErrRange; 0
	for _, l := range wrong() {
		if Check(l) != api.ErrRange || Total(l) != 0 || Bits(l) != 0 {
			t.Error(l, Check(l), Total(l), Bits(l))
		}
		for _, n := range edges {
			mustHave(t, l, n, nil)
		}
	}
}

func TestCheckTakes(t *testing.T) { // P10.1: the order of extents doesn't count, but for one that goes on with the one ahead
	for _, l := range [][]api.Extent{
		nil, {}, list(9, 23), list(9, 1), list(31, 1), list(31, 1, 9, 22), list(10, 1, 9, 1), list(9, 1, 20, 1, 10, 1),
		list(12, 3, 9, 3), list(9, 1, 11, 1, 13, 19), list(30, 2, 9, 21),
	} {
		if Check(l) != api.OK {
			t.Error(l, "is refused")
		}
		mustBeAsModel(t, l)
	}
	falling := []api.Extent{}
	for n := last; n >= first; n-- {
		falling = append(falling, api.Extent{Start: n, Len: 1})
		mustBeAsModel(t, falling)
	}
	mustBeAsModel(t, append(falling, api.Extent{Start: first, Len: 1}))
}

func TestOfManyExtents(t *testing.T) { // P10.1: a long list has a block twice
	l := make([]api.Extent, 100000)
	for i := range l {
		l[i] = api.Extent{Start: first + i%2*5, Len: 1}
	}
	mustBeAsModel(t, l[:2])
	mustBeAsModel(t, l[:3])
	mustBeAsModel(t, l)
}

func TestTotalBlockAndBits(t *testing.T) { // P10.2
	l := list(20, 2, 9, 1, 31, 1, 10, 3)
	if Total(l) != 7 || Bits(l) != 1<<20|1<<21|1<<9|1<<31|1<<10|1<<11|1<<12 {
		t.Fatal(Total(l), Bits(l))
	}
	for n, want := range []int{20, 21, 9, 31, 10, 11, 12} {
		if got, e := Block(l, n); got != want || e != api.OK {
			t.Fatal(n, got, e)
		}
	}
	if Total(nil) != 0 || Bits(nil) != 0 || Bits(list(9, 23)) != 0xfffffe00 {
		t.Fatal(Total(nil), Bits(nil), Bits(list(9, 23)))
	}
	r := rand.New(rand.NewSource(1))
	for range 2000 {
		mustBeAsModel(t, someList(r))
	}
}

func TestGrowErrors(t *testing.T) { // P10.3, P4
	for _, l := range wrong() {
		for _, n := range []int{math.MinInt, -1, 0, 1, 23, 24, math.MaxInt} {
			mustNotGrow(t, l, 0, n, api.ErrRange)
			mustNotGrow(t, l, math.MaxUint32, n, api.ErrRange)
		}
	}
	for _, n := range []int{math.MinInt, math.MinInt + 1, -1 << 32, -2, -1} {
		mustNotGrow(t, nil, 0, n, api.ErrRange)
		mustNotGrow(t, list(9, 23), math.MaxUint32, n, api.ErrRange)
	}
	for _, n := range []int{24, 32, 64, 1 << 32, 1<<32 + 1, math.MaxInt} {
		mustNotGrow(t, nil, 0, n, api.ErrFull)
		mustNotGrow(t, list(9, 1), 1<<9, n-1, api.ErrFull)
	}
	mustNotGrow(t, list(9, 23), 0xfffffe00, 1, api.ErrFull)
	mustNotGrow(t, nil, 0xfffffe00, 1, api.ErrFull) // those below FirstBlock are nobody's
}

func TestGrowUpToFull(t *testing.T) { // P10.3
	mustGrow(t, nil, 0, 23, list(9, 23), 0xfffffe00)
	mustGrow(t, nil, 0x1ff, 23, list(9, 23), math.MaxUint32)
	mustGrow(t, nil, math.MaxUint32, 0, nil, math.MaxUint32)
	mustGrow(t, list(9, 23), 0xfffffe00, 0, list(9, 23), 0xfffffe00)
	for n := first; n <= last; n++ {
		all := uint32(math.MaxUint32)
		mustGrow(t, nil, all&^(1<<n), 1, list(n, 1), all)
		mustNotGrow(t, nil, all&^(1<<n), 2, api.ErrFull)
	}
}

func TestGrowGoesOn(t *testing.T) { // P10.3: with the last extent alone
	mustGrow(t, list(9, 1), 1<<9, 2, list(9, 3), 7<<9)
	mustGrow(t, list(9, 1, 20, 1), 1<<9|1<<20, 1, list(9, 1, 20, 1, 10, 1), 1<<9|1<<20|1<<10)
	mustGrow(t, list(20, 1, 9, 1), 1<<9|1<<20, 1, list(20, 1, 9, 2), 1<<9|1<<20|1<<10)
	mustGrow(t, list(20, 1, 9, 1), 1<<9|1<<20, 12, list(20, 1, 9, 11, 21, 2), 0x3fff<<9)
	mustGrow(t, list(11, 1), 1<<11, 3, list(11, 1, 9, 2, 12, 1), 15<<9)
	mustGrow(t, list(10, 1), 1<<10|5, 2, list(10, 1, 9, 1, 11, 1), 7<<9|5)
	mustGrow(t, list(31, 1), 1<<31, 1, list(31, 1, 9, 1), 1<<31|1<<9)
}

func TestGrowWhereUsedLacksBlocks(t *testing.T) { // P10.3: what is used is told by used alone
	mustGrow(t, list(9, 1), 0, 1, list(9, 1, 9, 1), 1<<9)
	mustGrow(t, list(9, 1), 0, 2, list(9, 1, 9, 2), 3<<9)
	mustGrow(t, list(9, 1), 1<<9-1, 0, list(9, 1), 1<<9-1)
	mustGrow(t, list(11, 1), 0, 1, list(11, 1, 9, 1), 1<<9)
	mustGrow(t, list(9, 2), 1<<9, 1, list(9, 2, 10, 1), 3<<9)
	mustGrow(t, list(9, 23), 0, 23, list(9, 23, 9, 23), 0xfffffe00)
}

func TestGrowAsModel(t *testing.T) { // P10.3
	r := rand.New(rand.NewSource(2))
	for range 20000 {
		l, used := someList(r), r.Uint32()
		if r.Intn(3) > 0 {
			used |= Bits(l)
		}
		used |= r.Uint32() & uint32(-r.Intn(2))
		free, n := freeOf(used), r.Intn(28)
		if n > len(free) {
			mustNotGrow(t, l, used, n, api.ErrFull)
			continue
		}
		all, _ := blocksOf(l)
		mustGrow(t, l, used, n, joined(append(all, free[:n]...)), used|setOf(free[:n]))
	}
}

func TestShrinkErrors(t *testing.T) { // P10.4
	for _, l := range wrong() {
		for _, n := range edges {
			mustNotShrink(t, l, math.MaxUint32, n)
		}
	}
	for _, l := range [][]api.Extent{nil, list(9, 1), list(11, 2, 9, 1), list(9, 23)} {
		total := Total(l)
		for _, n := range append([]int{total + 1, total + 2}, edges...) {
			if n < 0 || n > total {
				mustNotShrink(t, l, math.MaxUint32, n)
			}
		}
	}
}

func TestShrink(t *testing.T) { // P10.4
	l := list(20, 2, 9, 3)
	all := Bits(l)
	mustShrink(t, l, all, 5, l, all)
	mustShrink(t, l, all, 4, list(20, 2, 9, 2), all&^(1<<11))
	mustShrink(t, l, all, 3, list(20, 2, 9, 1), 1<<20|1<<21|1<<9)
	mustShrink(t, l, all, 2, list(20, 2), 1<<20|1<<21)
	mustShrink(t, l, all, 1, list(20, 1), 1<<20)
	mustShrink(t, l, all, 0, nil, 0)
	mustShrink(t, l, math.MaxUint32, 0, nil, ^all)
	mustShrink(t, l, 0, 2, list(20, 2), 0)
	mustShrink(t, l, 1<<10|1<<25|5, 2, list(20, 2), 1<<25|5)
	mustShrink(t, nil, 77, 0, nil, 77)
	mustShrink(t, list(9, 23), math.MaxUint32, 0, nil, 0x1ff)
}

func TestShrinkAsModel(t *testing.T) { // P10.4
	r := rand.New(rand.NewSource(3))
	for range 20000 {
		l, used := someList(r), r.Uint32()
		all, _ := blocksOf(l)
		n := r.Intn(len(all) + 1)
		mustShrink(t, l, used, n, joined(all[:n]), used&^setOf(all[n:]))
		mustNotShrink(t, l, used, len(all)+1+r.Intn(9))
	}
}

func TestShrinkOfGrow(t *testing.T) { // P10.5
	r := rand.New(rand.NewSource(4))
	for range 20000 {
		l := someList(r)
		used := Bits(l) | r.Uint32()&r.Uint32()
		n := r.Intn(len(freeOf(used)) + 1)
		grown, set, e := Grow(l, used, n)
		if e != api.OK || Check(grown) != api.OK || Total(grown) != Total(l)+n || set&used != used || set&Bits(grown) != Bits(grown) {
			t.Fatal("Grow of", l, used, n, "answers", grown, set, e)
		}
		mustShrink(t, grown, set, Total(l), l, used)
	}
}

func TestNewMemory(t *testing.T) { // P2
	for _, n := range []int{0, 1, 2, 5} {
		mem := list(20, 2, 10, 1, 7, 7, 8, 8)
		l, used := mem[:2], uint32(1<<20|1<<21|1<<10|1<<9)
		grown, _, _ := Grow(l, used, n)
		mustStay(t, mem, grown)
		kept, _, _ := Shrink(l, used, min(n, 3))
		mustStay(t, mem, kept)
		again, _, _ := Grow(l, used, n)
		grown[0].Len = 99
		if again[0].Len != 2 {
			t.Fatal("two answers share memory")
		}
	}
}

// mustStay changes an answer all over, and what might lie behind it, and asks whether the argument's memory is as it was.
func mustStay(t *testing.T, mem, answer []api.Extent) {
	t.Helper()
	answer = answer[:cap(answer)]
	for i := range answer {
		answer[i] = api.Extent{Start: 55, Len: 55}
	}
	if !slices.Equal(mem, list(20, 2, 10, 1, 7, 7, 8, 8)) {
		t.Fatal("the argument is changed:", mem)
	}
}
