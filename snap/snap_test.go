package snap

import (
	"bytes"
	"encoding/binary"
	"math"
	"slices"
	"testing"

	"carrel/api"
	"carrel/disk"
	"carrel/root"
	"carrel/walk"
)

// noPages are numbers of no page.
var noPages = []int{math.MinInt, -1 << 32, -128, -1, 128, 129, 8192, 1<<32 + 3, math.MaxInt}

// fill is a page's bytes, other ones for each seed below 256, and never noughts alone.
func fill(seed int) []byte {
	b := make([]byte, 64)
	for i := range b {
		b[i] = byte(seed + i*3)
	}
	return b
}

func noughts() []byte { return make([]byte, 64) }

// put makes pages what fill tells of the seed.
func put(t *testing.T, s *Store, seed int, pages ...int) {
	t.Helper()
	for _, at := range pages {
		mustWrite(t, s, at, fill(seed))
	}
}

// wipe makes pages noughts.
func wipe(t *testing.T, s *Store, pages ...int) {
	t.Helper()
	for _, at := range pages {
		mustWrite(t, s, at, noughts())
	}
}

func mustWrite(t *testing.T, s *Store, at int, b []byte) {
	t.Helper()
	if e := s.Write(at, b); e != api.OK {
		t.Fatal("Write of", at, "answers", e)
	}
}

// memoryOf is what all pages are now.
func memoryOf(t *testing.T, s *Store) []byte {
	t.Helper()
	all := []byte{}
	for at := range 128 {
		b, e := s.Read(at)
		if e != api.OK || len(b) != 64 {
			t.Fatal("Read of", at, "answers", b, e)
		}
		all = append(all, b...)
	}
	return all
}

// memory is one in which these pages are what fill tells of the seeds.
func memoryWith(seeds map[int]int) []byte {
	all := make([]byte, 8192)
	for at, seed := range seeds {
		copy(all[at*64:], fill(seed))
	}
	return all
}

func mustBe(t *testing.T, s *Store, want []byte) {
	t.Helper()
	got := memoryOf(t, s)
	for at := range 128 {
		if a, b := got[at*64:at*64+64], want[at*64:at*64+64]; !bytes.Equal(a, b) {
			t.Fatal("page", at, "is", a, "want", b)
		}
	}
}

func mustFormat(t *testing.T, sectors int) (*Store, *disk.Disk) {
	t.Helper()
	d := disk.New(sectors)
	s, e := Format(d)
	if e != api.OK || s == nil {
		t.Fatal("Format answers", s, e)
	}
	return s, d
}

func mustOpen(t *testing.T, d *disk.Disk) *Store {
	t.Helper()
	s, e := Open(d)
	if e != api.OK || s == nil {
		t.Fatal("Open answers", e)
	}
	return s
}

func mustCommit(t *testing.T, s *Store) {
	t.Helper()
	if e := s.Commit(); e != api.OK {
		t.Fatal("Commit answers", e)
	}
}

func mustUndo(t *testing.T, s *Store, n int) {
	t.Helper()
	if e := s.Undo(n); e != api.OK {
		t.Fatal("Undo of", n, "answers", e)
	}
}

// grown has one checkpoint behind Format for each seed from 1 on, in which page 3 is of that seed.
func grown(t *testing.T, sectors, checkpoints int) (*Store, *disk.Disk) {
	t.Helper()
	s, d := mustFormat(t, sectors)
	for seed := 1; seed <= checkpoints; seed++ {
		put(t, s, seed, 3)
		mustCommit(t, s)
	}
	return s, d
}

func gensOf(s *Store) []uint64 {
	l := []uint64{}
	for _, one := range s.Snaps() {
		l = append(l, one.Gen)
	}
	return l
}

func mustHaveGens(t *testing.T, s *Store, want ...uint64) {
	t.Helper()
	if got := gensOf(s); !slices.Equal(got, want) {
		t.Fatal("checkpoints are of", got, "want", want)
	}
}

// mustStand holds the root on a sector, as it lasts, to a Gen and to the store's checkpoints.
func mustStand(t *testing.T, s *Store, d *disk.Disk, at int, gen uint64) {
	t.Helper()
	r, e := root.Decode(d.Bytes()[at*64 : at*64+64])
	if e != api.OK || r.Gen != gen || !slices.Equal(r.Snaps, s.Snaps()) {
		t.Fatal("sector", at, "is", r, e, "want Gen", gen, "and", s.Snaps())
	}
}

// reachedOnce are the sectors of all checkpoints' trees as they stand on the disk, rising.
func reachedOnce(t *testing.T, d *disk.Disk, snaps []api.Snap) []int {
	t.Helper()
	all := []int{}
	for _, one := range snaps {
		l, e := walk.Reach(d, one.Top)
		if e != api.OK {
			t.Fatal("the tree of", one, "isn't good:", e)
		}
		all = append(all, l...)
	}
	slices.Sort(all)
	return slices.Compact(all)
}

// mustHold holds Used and Free to what the checkpoints reach (P8.9).
func mustHold(t *testing.T, s *Store, d *disk.Disk) {
	t.Helper()
	want := reachedOnce(t, d, s.Snaps())
	if got := s.Used(); !slices.Equal(got, want) {
		t.Fatal("used are", got, "want", want)
	}
	if got := s.Free(); got != d.Len()-2-len(want) {
		t.Fatal("free are", got, "of", d.Len(), "with", want, "used")
	}
}

// told is all that a store tells but for its pages, and what its disk does.
type told struct {
	snaps   []api.Snap
	used    []int
	free    int
	acts    int
	waiting []int
	lasting []byte
}

func tell(s *Store, d *disk.Disk) told {
	return told{s.Snaps(), s.Used(), s.Free(), d.Acts(), d.Waiting(), d.Bytes()}
}

func (a told) alike(b told) bool {
	return slices.Equal(a.snaps, b.snaps) && slices.Equal(a.used, b.used) && a.free == b.free &&
		a.acts == b.acts && slices.Equal(a.waiting, b.waiting) && bytes.Equal(a.lasting, b.lasting)
}

func mustStay(t *testing.T, s *Store, d *disk.Disk, ahead told) {
	t.Helper()
	if now := tell(s, d); !now.alike(ahead) {
		t.Fatal("it is", now.snaps, now.used, now.free, now.acts, now.waiting, "and was", ahead.snaps, ahead.used, ahead.free, ahead.acts, ahead.waiting)
	}
}

func TestExampleOfTheChapter(t *testing.T) {
	s, d := mustFormat(t, 8)
	mustCommit(t, s)
	mustCommit(t, s)
	mustHaveGens(t, s, 1, 2, 3)
	mustUndo(t, s, 2)
	mustHaveGens(t, s, 1)
	if e := s.Undo(1); e != api.ErrUndo {
		t.Fatal("Undo answers", e)
	}
	mustHaveGens(t, mustOpen(t, d), 1)
}

// recordOfOne is a root's record by the words of the chapters, with one checkpoint of the root's Gen; its sum is left out.
func recordOfOne(gen uint64, top uint16) []byte {
	b := []byte{0x43, 0x41, 0x52, 0x4C}
	b = binary.LittleEndian.AppendUint64(b, gen)
	b = binary.LittleEndian.AppendUint16(b, 1)
	b = binary.LittleEndian.AppendUint64(b, gen)
	b = binary.LittleEndian.AppendUint16(b, top)
	return append(b, make([]byte, 36)...)
}

func TestFormat(t *testing.T) { // P8.1
	for _, sectors := range []int{8, 9, 100, 2000} {
		s, d := mustFormat(t, sectors)
		if d.Acts() != 3 || len(d.Waiting()) != 0 {
			t.Fatal("Format did", d.Acts(), "acts, and there waits", d.Waiting())
		}
		b := d.Bytes()
		if !bytes.Equal(b[:60], recordOfOne(1, 0)) || !bytes.Equal(b[64:], make([]byte, sectors*64-64)) {
			t.Fatal("the disk is", b[:192])
		}
		mustStand(t, s, d, 0, 1)
		if got := s.Snaps(); !slices.Equal(got, []api.Snap{{Gen: 1, Top: 0}}) {
			t.Fatal("the checkpoints are", got)
		}
		mustBe(t, s, memoryWith(nil))
		if s.Down() || s.Free() != sectors-2 || len(s.Used()) != 0 {
			t.Fatal(s.Down(), s.Free(), s.Used())
		}
	}
}

func TestFormatOverWhatWasThere(t *testing.T) { // P8.1: no root of before counts; no other sector is written
	d := disk.Of(bytes.Repeat([]byte{255}, 640))
	if _, e := Format(d); e != api.OK {
		t.Fatal("Format answers", e)
	}
	b := d.Bytes()
	if !bytes.Equal(b[64:128], noughts()) || !bytes.Equal(b[128:], bytes.Repeat([]byte{255}, 512)) {
		t.Fatal("the disk is", b)
	}
	for checkpoints := range 4 {
		_, d := grown(t, 40, checkpoints)
		s, e := Format(d)
		if e != api.OK {
			t.Fatal("Format answers", e)
		}
		mustHaveGens(t, s, 1)
		opened := mustOpen(t, d)
		mustHaveGens(t, opened, 1)
		mustBe(t, opened, memoryWith(nil))
	}
}

func mustNotFormat(t *testing.T, d *disk.Disk, want api.Errno) {
	t.Helper()
	acts := d.Acts()
	if s, e := Format(d); s != nil || e != want {
		t.Fatal("Format answers", s, e, "want", want)
	}
	if d.Acts() != acts {
		t.Fatal("Format did", d.Acts()-acts, "acts")
	}
}

func mustNotOpen(t *testing.T, d *disk.Disk, want api.Errno) {
	t.Helper()
	acts := d.Acts()
	if s, e := Open(d); s != nil || e != want {
		t.Fatal("Open answers", s, e, "want", want)
	}
	if d.Acts() != acts {
		t.Fatal("Open did", d.Acts()-acts, "acts")
	}
}

func downDisk(sectors int) *disk.Disk {
	d := disk.New(sectors)
	d.Arm(0)
	d.Flush()
	return d
}

func TestDisksThatMayNotBe(t *testing.T) { // P8.1, P8.2, P4
	mustNotFormat(t, nil, api.ErrRange)
	mustNotOpen(t, nil, api.ErrRange)
	for _, d := range []*disk.Disk{new(disk.Disk), downDisk(0), downDisk(7), downDisk(8), downDisk(2000)} {
		mustNotFormat(t, d, api.ErrDown)
		mustNotOpen(t, d, api.ErrDown)
	}
	for sectors := range 8 {
		mustNotFormat(t, disk.New(sectors), api.ErrRange)
		mustNotOpen(t, disk.New(sectors), api.ErrRange)
	}
	_, d := mustFormat(t, 8)
	mustNotOpen(t, disk.Of(d.Bytes()[:7*64]), api.ErrRange)
	mustNotOpen(t, disk.New(8), api.ErrRoot)
	mustNotOpen(t, disk.Of(bytes.Repeat([]byte{255}, 640)), api.ErrRoot)
}

func TestPowerThatGoesInFormat(t *testing.T) { // P8.1: disk's error; the writes stand in their order
	for acts, waits := range [][]int{{}, {0}, {0, 1}} {
		d := disk.New(20)
		d.Arm(acts)
		if s, e := Format(d); s != nil || e != api.ErrDown {
			t.Fatal("Format answers", s, e)
		}
		if got := d.Waiting(); !slices.Equal(got, waits) {
			t.Fatal("there waits", got, "want", waits)
		}
	}
	d := disk.New(20)
	d.Arm(3)
	if s, e := Format(d); s == nil || e != api.OK || s.Down() {
		t.Fatal("Format answers", e)
	}
}

// entries are a node's by their places; the others are 0.
type entries map[int]int

// lay is a node's bytes told by the chapters' words.
func lay(l entries) []byte {
	b := make([]byte, 64)
	for at, sector := range l {
		binary.LittleEndian.PutUint16(b[2*at:], uint16(sector))
	}
	return b
}

func record(t *testing.T, gen uint64, snaps ...api.Snap) []byte {
	t.Helper()
	b, e := root.Encode(api.Root{Gen: gen, Snaps: snaps})
	if e != api.OK {
		t.Fatal("Encode answers", e)
	}
	return b
}

// diskOf is one of 20 sectors: those named, and 255 on the others.
func diskOf(sectors map[int][]byte) *disk.Disk {
	b := bytes.Repeat([]byte{255}, 20*64)
	for n, data := range sectors {
		copy(b[n*64:], data)
	}
	return disk.Of(b)
}

// sown is a disk with four trees, which have leaves and pages of one another, and two roots.
func sown(t *testing.T) *disk.Disk {
	t.Helper()
	return diskOf(map[int][]byte{
		0:  record(t, 30, api.Snap{Gen: 5, Top: 9}),
		1:  record(t, 31, api.Snap{Gen: 5, Top: 9}, api.Snap{Gen: 7, Top: 0}, api.Snap{Gen: 8, Top: 12}, api.Snap{Gen: 20, Top: 13}),
		9:  lay(entries{0: 4, 2: 5}),
		4:  lay(entries{3: 19, 30: 2}),
		5:  lay(entries{0: 11}),
		12: lay(entries{0: 4, 3: 5}),
		13: lay(entries{1: 14}),
		14: lay(entries{31: 19}),
		19: fill(1), 2: fill(2), 11: fill(3),
	})
}

func TestOpen(t *testing.T) { // P8.2, P8.7, P8.9: sectors of several trees count once
	d := sown(t)
	s := mustOpen(t, d)
	want := []api.Snap{{Gen: 5, Top: 9}, {Gen: 7, Top: 0}, {Gen: 8, Top: 12}, {Gen: 20, Top: 13}}
	if got := s.Snaps(); !slices.Equal(got, want) {
		t.Fatal("the checkpoints are", got)
	}
	mustBe(t, s, memoryWith(map[int]int{63: 1}))
	if got := s.Used(); !slices.Equal(got, []int{2, 4, 5, 9, 11, 12, 13, 14, 19}) || s.Free() != 9 {
		t.Fatal("used are", got, "free", s.Free())
	}
	if s.Down() || d.Acts() != 0 || len(d.Waiting()) != 0 {
		t.Fatal(s.Down(), d.Acts(), d.Waiting())
	}
	mustUndo(t, s, 1)
	mustStand(t, s, d, 0, 32)
	mustBe(t, s, memoryWith(map[int]int{3: 1, 30: 2, 96: 3}))
	mustHold(t, s, d)
	mustUndo(t, s, 1)
	mustStand(t, s, d, 1, 33)
	mustBe(t, s, memoryWith(nil))
	mustUndo(t, s, 1)
	mustBe(t, s, memoryWith(map[int]int{3: 1, 30: 2, 64: 3}))
	mustHold(t, s, d)
	put(t, s, 9, 64)
	mustCommit(t, s)
	mustHaveGens(t, s, 5, 35)
	mustStand(t, s, d, 1, 35)
	mustHold(t, s, d)
}

func TestOpenTakesTheRootThatCounts(t *testing.T) { // P8.2: the later one; of two alike the first; of one that is none the other
	one, two := record(t, 30, api.Snap{Gen: 5}), record(t, 31, api.Snap{Gen: 6})
	alike := record(t, 31, api.Snap{Gen: 7})
	cases := []struct {
		a, b []byte
		gen  uint64 // of the checkpoint
		next uint64 // the Gen of the root that comes next
		at   int    // where it goes
	}{
		{one, two, 6, 32, 0}, {two, one, 6, 32, 1}, {two, alike, 6, 32, 1}, {alike, two, 7, 32, 1},
		{one, noughts(), 5, 31, 1}, {noughts(), one, 5, 31, 0}, {fill(3), two, 6, 32, 0},
	}
	for _, c := range cases {
		d := diskOf(map[int][]byte{0: c.a, 1: c.b})
		s := mustOpen(t, d)
		mustHaveGens(t, s, c.gen)
		mustCommit(t, s)
		mustStand(t, s, d, c.at, c.next)
		mustHaveGens(t, s, c.gen, c.next)
	}
}

func TestTreesThatAreNotGood(t *testing.T) { // P8.2: whichever checkpoint has it
	for bad := range 4 {
		for _, top := range []int{9, 20, 1999} {
			snaps := []api.Snap{{Gen: 1}, {Gen: 2}, {Gen: 3}, {Gen: 4}}
			snaps[bad].Top = top
			mustNotOpen(t, diskOf(map[int][]byte{0: record(t, 4, snaps...), 9: lay(entries{0: 4}), 4: lay(entries{0: 9})}), api.ErrTree)
		}
	}
	good := record(t, 4, api.Snap{Gen: 4})
	bad := record(t, 5, api.Snap{Gen: 5, Top: 9})
	mustNotOpen(t, diskOf(map[int][]byte{0: good, 1: bad, 9: lay(entries{4: 4})}), api.ErrTree) // the root that counts, though the other would do
	mustOpen(t, diskOf(map[int][]byte{0: good, 1: record(t, 3, api.Snap{Gen: 3, Top: 9}), 9: lay(entries{4: 4})}))
}

func TestOpenReadsWhatWaits(t *testing.T) { // P8.2: as it was last written
	d := disk.New(20)
	d.Write(1, record(t, 9, api.Snap{Gen: 3, Top: 7}))
	d.Write(7, lay(entries{0: 8}))
	d.Write(8, lay(entries{5: 9}))
	d.Write(9, fill(4))
	s := mustOpen(t, d)
	mustBe(t, s, memoryWith(map[int]int{5: 4}))
	mustHold(t, s, d)
}

func TestReadAndWrite(t *testing.T) { // P8.3
	s, d := mustFormat(t, 20)
	acts := d.Acts()
	want := make([]byte, 8192)
	for at := range 128 {
		mustWrite(t, s, 127-at, fill(at))
		copy(want[(127-at)*64:], fill(at))
	}
	mustBe(t, s, want)
	mustWrite(t, s, 0, fill(1))
	mustWrite(t, s, 0, fill(200))
	mustWrite(t, s, 127, noughts())
	copy(want, fill(200))
	clear(want[127*64:])
	mustBe(t, s, want)
	if d.Acts() != acts {
		t.Fatal("pages came to the disk")
	}
	mustBe(t, mustOpen(t, d), memoryWith(nil))
}

func TestWrongPages(t *testing.T) { // P8.3, P5
	s, _ := grown(t, 20, 1)
	for _, at := range noPages {
		if b, e := s.Read(at); b != nil || e != api.ErrRange {
			t.Fatal("Read of", at, "answers", b, e)
		}
		for _, b := range [][]byte{fill(1), nil, fill(1)[:63]} {
			if e := s.Write(at, b); e != api.ErrRange {
				t.Fatal("Write of", at, "answers", e)
			}
		}
	}
	for _, b := range [][]byte{nil, {}, {1}, fill(1)[:63], append(fill(1), 0), append(fill(1), fill(1)...)} {
		for _, at := range []int{0, 3, 127} {
			if e := s.Write(at, b); e != api.ErrRange {
				t.Fatal("Write of", len(b), "bytes answers", e)
			}
		}
	}
	mustBe(t, s, memoryWith(map[int]int{3: 1}))
}

func TestNewMemory(t *testing.T) { // P2
	s, d := grown(t, 20, 2)
	data := append(fill(7), 1, 2, 3)
	mustWrite(t, s, 5, data[:64])
	if !bytes.Equal(data, append(fill(7), 1, 2, 3)) {
		t.Fatal("Write changed", data)
	}
	clear(data)
	want := memoryWith(map[int]int{3: 2, 5: 7})
	mustBe(t, s, want)
	a, _ := s.Read(5)
	b, _ := s.Read(5)
	clear(a[:cap(a)])
	if !bytes.Equal(b, fill(7)) {
		t.Fatal("one answer follows the other")
	}
	mustBe(t, s, want)
	mustCommit(t, s)
	b[0]++
	snaps, used := s.Snaps(), s.Used()
	clear(snaps[:cap(snaps)])
	clear(used[:cap(used)])
	mustHaveGens(t, s, 1, 2, 3, 4)
	mustHold(t, s, d)
	s.Abort()
	mustBe(t, s, want)
	mustBe(t, mustOpen(t, d), want)
}

func TestStoresThatNobodyMade(t *testing.T) { // P8.2
	var value Store
	for _, s := range []*Store{nil, new(Store), &value} {
		for _, at := range append([]int{0, 5, 127}, noPages...) {
			if b, e := s.Read(at); b != nil || e != api.ErrNone {
				t.Fatal("Read answers", b, e)
			}
			if e := s.Write(at, fill(1)); e != api.ErrNone {
				t.Fatal("Write answers", e)
			}
			if e := s.Write(at, nil); e != api.ErrNone {
				t.Fatal("Write answers", e)
			}
			if e := s.Undo(at); e != api.ErrNone {
				t.Fatal("Undo answers", e)
			}
		}
		s.Abort()
		if e := s.Commit(); e != api.ErrNone {
			t.Fatal("Commit answers", e)
		}
		if len(s.Snaps()) != 0 || s.Free() != 0 || len(s.Used()) != 0 || s.Down() {
			t.Fatal("it tells", s.Snaps(), s.Free(), s.Used(), s.Down())
		}
	}
}

func TestCommit(t *testing.T) { // P8.4: changed pages go beside the old ones, then the root goes where none counts
	s, d := mustFormat(t, 30)
	put(t, s, 1, 3, 40)
	mustCommit(t, s)
	if got := s.Snaps(); !slices.Equal(got, []api.Snap{{Gen: 1, Top: 0}, {Gen: 2, Top: 6}}) {
		t.Fatal("the checkpoints are", got)
	}
	mustStand(t, s, d, 1, 2)
	mustHold(t, s, d)
	acts := d.Acts()
	put(t, s, 2, 40)
	put(t, s, 1, 3) // as it is
	mustCommit(t, s)
	if d.Acts()-acts != 3+3 || len(d.Waiting()) != 0 {
		t.Fatal("Commit did", d.Acts()-acts, "acts, and there waits", d.Waiting())
	}
	if got := s.Snaps(); !slices.Equal(got, []api.Snap{{Gen: 1, Top: 0}, {Gen: 2, Top: 6}, {Gen: 3, Top: 9}}) {
		t.Fatal("the checkpoints are", got)
	}
	if got, _ := walk.Reach(d, 9); !slices.Equal(got, []int{9, 4, 2, 8, 7}) {
		t.Fatal("the last tree reaches", got)
	}
	mustStand(t, s, d, 0, 3)
	mustHold(t, s, d)
	mustBe(t, s, memoryWith(map[int]int{3: 1, 40: 2}))
	for n, want := range map[int]map[int]int{0: {}, 6: {3: 1, 40: 1}, 9: {3: 1, 40: 2}} {
		if got, e := walk.Load(d, n); e != api.OK || !bytes.Equal(got, memoryWith(want)) {
			t.Fatal("the tree of", n, "isn't what it was")
		}
	}
}

func TestCommitOfNothing(t *testing.T) { // P8.4: a checkpoint of the same tree, whatever pages were for a while
	s, d := grown(t, 8, 1)
	for gen := uint64(3); gen < 20; gen++ {
		put(t, s, 9, 3, 4)
		put(t, s, 1, 3)
		wipe(t, s, 4)
		acts := d.Acts()
		mustCommit(t, s)
		if d.Acts()-acts != 3 {
			t.Fatal("Commit did", d.Acts()-acts, "acts")
		}
		if got := s.Snaps()[len(s.Snaps())-1]; got != (api.Snap{Gen: gen, Top: 4}) {
			t.Fatal("the last checkpoint is", got)
		}
		mustStand(t, s, d, int(gen-1)%2, gen)
		mustHold(t, s, d)
	}
	mustHaveGens(t, s, 16, 17, 18, 19)
}

func TestCommitOfNoughts(t *testing.T) { // P8.4: noughts have no sector
	s, d := grown(t, 8, 1)
	wipe(t, s, 3)
	mustCommit(t, s)
	if got := s.Snaps(); !slices.Equal(got, []api.Snap{{Gen: 1, Top: 0}, {Gen: 2, Top: 4}, {Gen: 3, Top: 0}}) {
		t.Fatal("the checkpoints are", got)
	}
	mustBe(t, s, memoryWith(nil))
	mustHold(t, s, d)
}

func TestCommitOfAllPages(t *testing.T) { // P8.4
	s, d := mustFormat(t, 2+2*133)
	for seed := range 4 {
		for at := range 128 {
			put(t, s, at+seed, at)
		}
		mustCommit(t, s)
		mustHold(t, s, d)
		mustBe(t, mustOpen(t, d), memoryOf(t, s))
	}
	mustHaveGens(t, s, 5, 7) // there is room for two of them only, so that each one from the third on takes two roots
}

func TestTheLastAreKept(t *testing.T) { // P8.4: Keep of them, the oldest goes, and its sectors are free
	s, d := mustFormat(t, 40)
	for seed := 1; seed <= 12; seed++ {
		put(t, s, seed, 3)
		mustCommit(t, s)
		want := []uint64{}
		for gen := max(seed-2, 1); gen <= seed+1; gen++ {
			want = append(want, uint64(gen))
		}
		mustHaveGens(t, s, want...)
		mustStand(t, s, d, seed%2, uint64(seed+1))
		mustHold(t, s, d)
		for n, one := range s.Snaps() {
			got, e := walk.Load(d, one.Top)
			seeds := map[int]int{3: int(want[n]) - 1}
			if want[n] == 1 {
				clear(seeds)
			}
			if e != api.OK || !bytes.Equal(got, memoryWith(seeds)) {
				t.Fatal("checkpoint", one, "isn't what it was")
			}
		}
	}
	if len(s.Used()) != 12 {
		t.Fatal("used are", s.Used())
	}
}

// crowded has four checkpoints, three sectors for each tree but the first one's, of noughts, and so many sectors free beside them.
func crowded(t *testing.T, free int) (*Store, *disk.Disk) {
	t.Helper()
	s, d := mustFormat(t, 2+9+free)
	for seed := 1; seed <= 3; seed++ {
		put(t, s, seed, 3)
		mustCommit(t, s)
	}
	mustHaveGens(t, s, 1, 2, 3, 4)
	if s.Free() != free {
		t.Fatal("free are", s.Free())
	}
	return s, d
}

func TestAsManyAreLetGoAsItTakes(t *testing.T) { // P8.4: a root without them ahead of all, just as many, and that only if there is no other way
	cases := []struct {
		free  int
		pages []int // they are changed
		gens  []uint64
		gone  int
	}{
		{3, []int{3}, []uint64{2, 3, 4, 5}, 0},
		{5, []int{3, 4, 5}, []uint64{2, 3, 4, 5}, 0},
		{2, []int{3}, []uint64{3, 4, 6}, 2}, // the first one has no sector to give
		{0, []int{3}, []uint64{3, 4, 6}, 2},
		{1, []int{3, 4}, []uint64{3, 4, 6}, 2},
		{0, []int{3, 4}, []uint64{4, 6}, 3},
		{2, []int{3, 4, 5, 6}, []uint64{4, 6}, 3},
		{0, []int{0, 1, 2, 3}, []uint64{4, 6}, 3},
	}
	for _, c := range cases {
		s, d := crowded(t, c.free)
		put(t, s, 50, c.pages...)
		acts := d.Acts()
		mustCommit(t, s)
		mustHaveGens(t, s, c.gens...)
		want := len(c.pages) + 2 + 3
		if c.gone > 0 {
			want += 2
		}
		if d.Acts()-acts != want {
			t.Fatal("Commit did", d.Acts()-acts, "acts, want", want)
		}
		last := c.gens[len(c.gens)-1]
		mustStand(t, s, d, int(last-1)%2, last)
		mustHold(t, s, d)
		mustBe(t, mustOpen(t, d), memoryOf(t, s))
	}
}

func TestTheRootWithoutThemIsFlushed(t *testing.T) { // P8.4: ahead of the first page; seen where the power goes behind each act
	s, d := crowded(t, 0)
	ahead := s.Snaps()
	put(t, s, 50, 3)
	for acts, waits := range [][]int{{}, {0}, {}, {2}, {2, 3}, {2, 3, 4}, {}, {1}} {
		one := disk.Of(d.Bytes())
		s := mustOpen(t, one)
		put(t, s, 50, 3)
		one.Arm(acts)
		if e := s.Commit(); e != api.ErrDown {
			t.Fatal("Commit answers", e)
		}
		if got := one.Waiting(); !slices.Equal(got, waits) {
			t.Fatal("behind", acts, "acts there waits", got, "want", waits)
		}
		one.Restart(api.Fate{Torn: -1})
		want := ahead
		if acts >= 2 {
			want = ahead[2:]
		}
		if got := mustOpen(t, one).Snaps(); !slices.Equal(got, want) {
			t.Fatal("behind", acts, "acts there are", got, "want", want)
		}
	}
}

func TestNoRoom(t *testing.T) { // P8.4: ErrFull, and nothing has changed
	for free := range 6 {
		s, d := crowded(t, free)
		enough := 6 + free - 2 // pages of one leaf for which there is room when all but the last checkpoint are let go
		want := map[int]int{}
		for at := range enough + 1 {
			put(t, s, 60, 3+at)
			want[3+at] = 60
		}
		ahead := tell(s, d)
		for range 2 {
			if e := s.Commit(); e != api.ErrFull {
				t.Fatal("Commit answers", e)
			}
			mustStay(t, s, d, ahead)
			mustBe(t, s, memoryWith(want))
		}
		if s.Down() {
			t.Fatal("it is down")
		}
		wipe(t, s, 3+enough)
		mustCommit(t, s)
		mustHaveGens(t, s, 4, 6)
		mustHold(t, s, d)
		delete(want, 3+enough)
		mustBe(t, mustOpen(t, d), memoryWith(want))
	}
}

func TestNoRoomSpendsNoAct(t *testing.T) { // P8.4: also where the next act would find the power off
	s, d := crowded(t, 0)
	for at := range 20 {
		put(t, s, 60, at)
	}
	d.Arm(0)
	if e := s.Commit(); e != api.ErrFull || s.Down() || d.Down() {
		t.Fatal("Commit answers", e, s.Down(), d.Down())
	}
	s.Abort()
	if e := s.Commit(); e != api.ErrDown || !s.Down() {
		t.Fatal("Commit answers", e, s.Down())
	}
}

func TestAbort(t *testing.T) { // P8.5
	s, d := mustFormat(t, 40)
	put(t, s, 5, 0, 127)
	s.Abort()
	mustBe(t, s, memoryWith(nil))
	put(t, s, 1, 3, 100)
	mustCommit(t, s)
	put(t, s, 2, 4, 100)
	wipe(t, s, 3)
	ahead := tell(s, d)
	for range 2 {
		s.Abort()
		mustBe(t, s, memoryWith(map[int]int{3: 1, 100: 1}))
		mustStay(t, s, d, ahead)
	}
	put(t, s, 2, 4)
	mustCommit(t, s)
	s.Abort()
	mustBe(t, s, memoryWith(map[int]int{3: 1, 4: 2, 100: 1}))
	mustUndo(t, s, 1)
	put(t, s, 9, 3, 60)
	s.Abort()
	mustBe(t, s, memoryWith(map[int]int{3: 1, 100: 1}))
	opened := mustOpen(t, d)
	put(t, opened, 9, 3, 60)
	opened.Abort()
	mustBe(t, opened, memoryWith(map[int]int{3: 1, 100: 1}))
}

func TestUndo(t *testing.T) { // P8.6: with what is not in a checkpoint yet, too
	for n := 1; n <= 3; n++ {
		s, d := grown(t, 40, 5)
		put(t, s, 77, 3, 60)
		acts := d.Acts()
		mustUndo(t, s, n)
		if d.Acts()-acts != 2 || len(d.Waiting()) != 0 {
			t.Fatal("Undo did", d.Acts()-acts, "acts, and there waits", d.Waiting())
		}
		mustHaveGens(t, s, []uint64{3, 4, 5, 6}[:4-n]...)
		mustStand(t, s, d, 0, 7)
		want := memoryWith(map[int]int{3: 5 - n})
		mustBe(t, s, want)
		mustHold(t, s, d)
		opened := mustOpen(t, d)
		mustBe(t, opened, want)
		mustHaveGens(t, opened, gensOf(s)...)
		put(t, s, 88, 90)
		mustCommit(t, s)
		mustHaveGens(t, s, append([]uint64{3, 4, 5, 6}[:4-n:4-n], 8)...)
		mustStand(t, s, d, 1, 8)
		mustBe(t, s, memoryWith(map[int]int{3: 5 - n, 90: 88}))
		mustHold(t, s, d)
	}
}

func TestUndoSoFarBack(t *testing.T) { // P8.6: ErrUndo, and nothing has changed
	for checkpoints := range 6 {
		s, d := grown(t, 40, checkpoints)
		put(t, s, 77, 60)
		there := len(s.Snaps())
		ahead, pages := tell(s, d), memoryOf(t, s)
		for _, n := range []int{math.MinInt, -1 << 32, -2, -1, 0, there, there + 1, 5, 1 << 32, 1<<32 + 1, math.MaxInt} {
			if e := s.Undo(n); e != api.ErrUndo {
				t.Fatal("Undo of", n, "among", there, "answers", e)
			}
			mustStay(t, s, d, ahead)
			mustBe(t, s, pages)
		}
		if there > 1 {
			mustUndo(t, s, there-1)
			mustHaveGens(t, s, ahead.snaps[0].Gen)
		}
	}
}

func TestUndoFreesWhatItDrops(t *testing.T) { // P8.6, P8.9: room for other pages, while what is kept stays
	s, d := crowded(t, 0)
	mustUndo(t, s, 2)
	if s.Free() != 6 {
		t.Fatal("free are", s.Free())
	}
	for seed := 20; seed < 30; seed++ {
		put(t, s, seed, 3, 64)
		mustCommit(t, s)
		mustHold(t, s, d)
		mustUndo(t, s, 1)
		mustHaveGens(t, s, 1, 2)
		mustBe(t, s, memoryWith(map[int]int{3: 1}))
	}
	mustUndo(t, s, 1)
	mustBe(t, s, memoryWith(nil))
	if s.Free() != 9 || len(s.Used()) != 0 {
		t.Fatal("free are", s.Free(), "used", s.Used())
	}
}

func TestRoom(t *testing.T) { // P8.10: all pages changed again and again, spread over all leaves or not
	for p := range 129 {
		sectors := 2*p + 12
		s, d := mustFormat(t, sectors)
		for round := range 4 {
			for i := range p {
				put(t, s, i+round, (i%4)*32+i/4)
			}
			mustCommit(t, s)
		}
		for at := range 128 {
			wipe(t, s, at)
		}
		for i := range p {
			put(t, s, i, 127-i)
		}
		mustCommit(t, s)
		mustHold(t, s, d)
	}
	s, d := mustFormat(t, 2*8+11)
	for i := range 8 {
		put(t, s, i, i*16)
	}
	mustCommit(t, s)
	for i := range 8 {
		put(t, s, i+1, i*16)
	}
	ahead := tell(s, d)
	if e := s.Commit(); e != api.ErrFull { // one sector less
		t.Fatal("Commit answers", e)
	}
	mustStay(t, s, d, ahead)
}

func TestTwoStoresGoTheirOwnWay(t *testing.T) { // P3: nothing is kept beside the store and its disk
	a, one := grown(t, 40, 2)
	b, two := mustFormat(t, 40)
	put(t, b, 9, 3)
	mustCommit(t, b)
	put(t, a, 5, 7)
	mustUndo(t, a, 1)
	mustBe(t, b, memoryWith(map[int]int{3: 9}))
	mustBe(t, a, memoryWith(map[int]int{3: 1}))
	mustHold(t, a, one)
	mustHold(t, b, two)
	again := mustOpen(t, one)
	put(t, again, 60, 60)
	mustBe(t, a, memoryWith(map[int]int{3: 1}))
}
