package snap

import (
	"bytes"
	"math"
	"math/rand"
	"slices"
	"testing"

	"carrel/api"
	"carrel/disk"
	"carrel/root"
	"carrel/walk"
)

// act is a call that has acts.
type act struct {
	name string
	do   func(s *Store) api.Errno
	left int // how many checkpoints there are behind it
}

// scene is a disk ahead of a call, and what is written to the store ahead of it.
type scene struct {
	name   string
	bytes  []byte
	change func(s *Store)
	call   act
}

func commit(s *Store) api.Errno { return s.Commit() }

func undo(n int) func(s *Store) api.Errno {
	return func(s *Store) api.Errno { return s.Undo(n) }
}

// scenes are of Commit with room, with checkpoints let go, with nothing changed, with noughts, of Undo, and one behind an Undo.
func scenes(t *testing.T) []scene {
	t.Helper()
	one := func(s *Store) { put(t, s, 50, 3) }
	two := func(s *Store) { put(t, s, 50, 3, 90) }
	bare := func(s *Store) { wipe(t, s, 3) }
	nothing := func(s *Store) {}
	_, wide := grown(t, 40, 2)
	_, kept := grown(t, 40, 5)
	_, tight := crowded(t, 0)
	s, back := grown(t, 40, 3)
	mustUndo(t, s, 2)
	return []scene{
		{"the first", mustFirst(t), one, act{"Commit", commit, 2}},
		{"with room", wide.Bytes(), two, act{"Commit", commit, 4}},
		{"the oldest goes", kept.Bytes(), one, act{"Commit", commit, 4}},
		{"nothing is changed", kept.Bytes(), nothing, act{"Commit", commit, 4}},
		{"noughts", kept.Bytes(), bare, act{"Commit", commit, 4}},
		{"two are let go", tight.Bytes(), one, act{"Commit", commit, 3}},
		{"three are let go", tight.Bytes(), two, act{"Commit", commit, 2}},
		{"behind an Undo", back.Bytes(), two, act{"Commit", commit, 3}},
		{"one back", kept.Bytes(), one, act{"Undo", undo(1), 3}},
		{"three back", kept.Bytes(), one, act{"Undo", undo(3), 1}},
	}
}

func mustFirst(t *testing.T) []byte {
	t.Helper()
	_, d := mustFormat(t, 20)
	return d.Bytes()
}

// set is the store of a scene just ahead of its call.
func (c scene) set(t *testing.T) (*Store, *disk.Disk) {
	t.Helper()
	d := disk.Of(c.bytes)
	s := mustOpen(t, d)
	c.change(s)
	return s, d
}

// pagesOf are the memories of a store's checkpoints, by which these are told.
func pagesOf(t *testing.T, s *Store, d *disk.Disk) [][]byte {
	t.Helper()
	l := [][]byte{}
	for _, one := range s.Snaps() {
		b, e := walk.Load(d, one.Top)
		if e != api.OK {
			t.Fatal("Load of", one, "answers", e)
		}
		l = append(l, b)
	}
	return l
}

func same(a, b [][]byte) bool { return slices.EqualFunc(a, b, bytes.Equal) }

// outcome is what may be opened behind a call in which the power goes.
type outcome struct {
	ahead, behind [][]byte
}

// mustAllow holds what is opened to one of the two, where Commit may have let go the oldest ones.
func (o outcome) mustAllow(t *testing.T, s *Store, d *disk.Disk) {
	t.Helper()
	got := pagesOf(t, s, d)
	mustBe(t, s, got[len(got)-1])
	mustHold(t, s, d)
	if same(got, o.behind) {
		return
	}
	gone := len(o.ahead) - len(got)
	if gone < 0 || !same(got, o.ahead[gone:]) {
		t.Fatal("there are", len(got), "checkpoints, which are neither those ahead nor those behind")
	}
}

// outcomeOf does a scene's call with the power on.
func outcomeOf(t *testing.T, c scene) (outcome, int) {
	t.Helper()
	s, d := c.set(t)
	o := outcome{ahead: pagesOf(t, s, d)}
	if e := c.call.do(s); e != api.OK {
		t.Fatal(c.call.name, "answers", e)
	}
	o.behind = pagesOf(t, s, d)
	if len(o.behind) != c.call.left {
		t.Fatal("there are", len(o.behind), "checkpoints, want", c.call.left)
	}
	return o, d.Acts()
}

// fates are of so many writes: each choice of those that stay, each one torn at bounds of fields and beside them.
func fates(writes int) []api.Fate {
	l := []api.Fate{}
	for stay := range uint64(1) << writes {
		l = append(l, api.Fate{Stay: stay, Torn: -1})
		for torn := range writes {
			for _, cut := range []int{0, 1, 2, 4, 5, 12, 14, 15, 22, 23, 24, 32, 34, 42, 44, 60, 61, 63, 64} {
				l = append(l, api.Fate{Stay: stay, Torn: torn, Cut: cut, Head: true}, api.Fate{Stay: stay, Torn: torn, Cut: cut})
			}
		}
	}
	return l
}

func TestPowerThatGoes(t *testing.T) { // P8.8: at each act, with each fate
	for _, c := range scenes(t) {
		t.Run(c.name, func(t *testing.T) {
			o, acts := outcomeOf(t, c)
			for left := range acts {
				_, d := cut(t, c, left)
				for _, f := range fates(len(d.Waiting())) {
					_, d := cut(t, c, left)
					d.Restart(f)
					o.mustAllow(t, mustOpen(t, d), d)
				}
			}
		})
	}
}

// cut lets the power go in a scene's call behind so many acts.
func cut(t *testing.T, c scene, left int) (*Store, *disk.Disk) {
	t.Helper()
	s, d := c.set(t)
	d.Arm(left)
	if e := c.call.do(s); e != api.ErrDown {
		t.Fatal(c.call.name, "answers", e)
	}
	return s, d
}

func TestBothOutcomesAreSeen(t *testing.T) { // P8.8: what was flushed counts, what was not may, as the fate has it
	for _, c := range scenes(t) {
		o, acts := outcomeOf(t, c)
		for left := range acts {
			for _, stay := range []uint64{0, math.MaxUint64} {
				_, d := cut(t, c, left)
				d.Restart(api.Fate{Stay: stay, Torn: -1})
				s := mustOpen(t, d)
				if got := same(pagesOf(t, s, d), o.behind); got != (stay != 0 && left == acts-1) && !same(o.ahead, o.behind) {
					t.Fatal(c.name, "behind", left, "of", acts, "acts:", got)
				}
			}
		}
		s, d := c.set(t)
		d.Arm(acts)
		if e := c.call.do(s); e != api.OK || s.Down() {
			t.Fatal(c.call.name, "answers", e, s.Down())
		}
		d.Restart(api.Fate{Torn: -1})
		if !same(pagesOf(t, mustOpen(t, d), d), o.behind) {
			t.Fatal("it isn't what was told")
		}
	}
}

func TestStoresThatAreDown(t *testing.T) { // P8.4, P8.6: every call answers ErrDown, also when the power is back; what the others tell is what it was (P4)
	for _, c := range scenes(t) {
		_, acts := outcomeOf(t, c)
		for left := range acts {
			before, still := c.set(t)
			ahead := tell(before, still)
			s, d := cut(t, c, left)
			for range 2 {
				mustBeDown(t, s)
				if now := tell(s, still); !now.alike(ahead) {
					t.Fatal("it tells", now.snaps, now.used, now.free, "and told", ahead.snaps, ahead.used, ahead.free)
				}
				d.Restart(api.Fate{Stay: math.MaxUint64, Torn: -1})
			}
			if opened := mustOpen(t, d); opened.Down() {
				t.Fatal("the one that is opened is down, too")
			}
		}
	}
}

func mustBeDown(t *testing.T, s *Store) {
	t.Helper()
	if !s.Down() {
		t.Fatal("it isn't down")
	}
	for _, n := range append([]int{0, 1, 2, 127}, noPages...) {
		if b, e := s.Read(n); b != nil || e != api.ErrDown {
			t.Fatal("Read answers", b, e)
		}
		for _, b := range [][]byte{nil, fill(1)} {
			if e := s.Write(n, b); e != api.ErrDown {
				t.Fatal("Write answers", e)
			}
		}
		if e := s.Undo(n); e != api.ErrDown {
			t.Fatal("Undo answers", e)
		}
	}
	if e := s.Commit(); e != api.ErrDown {
		t.Fatal("Commit answers", e)
	}
	s.Abort()
	if !s.Down() {
		t.Fatal("it isn't down any more")
	}
}

func TestUndoAsksForItsNumberFirst(t *testing.T) { // P8.6, P4
	s, d := grown(t, 20, 1)
	d.Arm(0)
	if e := s.Undo(2); e != api.ErrUndo || s.Down() || d.Down() {
		t.Fatal("Undo answers", e, s.Down(), d.Down())
	}
	if e := s.Undo(1); e != api.ErrDown || !s.Down() {
		t.Fatal("Undo answers", e, s.Down())
	}
}

// past is a checkpoint of the model.
type past struct {
	gen    uint64
	memory []byte
}

// model is a store by the chapter's words, without a disk. Its calls make new ones.
type model struct {
	list []past
	gen  uint64
	live []byte
}

func (m model) last() []byte { return m.list[len(m.list)-1].memory }

func (m model) aborted() model { return model{m.list, m.gen, bytes.Clone(m.last())} }

func (m model) letGo(gone int) model { return model{m.list[gone:], m.gen + 1, m.live}.aborted() }

func (m model) undone(n int) model {
	return model{m.list[:len(m.list)-n], m.gen + 1, nil}.aborted()
}

func (m model) committed() model {
	all := append(slices.Clone(m.list), past{m.gen + 1, bytes.Clone(m.live)})
	return model{all[max(len(all)-4, 0):], m.gen + 1, m.live}
}

func (m model) pages() [][]byte {
	l := [][]byte{}
	for _, one := range m.list {
		l = append(l, one.memory)
	}
	return l
}

// cost tells by the chapters' words what the next tree takes.
func (m model) cost() int {
	leaves, many := map[int]bool{}, 0
	for at := range 128 {
		now := m.live[at*64 : at*64+64]
		if bytes.Equal(now, m.last()[at*64:at*64+64]) {
			continue
		}
		leaves[at/32] = true
		if !bytes.Equal(now, noughts()) {
			many++
		}
	}
	for i := range leaves {
		if !bytes.Equal(m.live[i*2048:i*2048+2048], make([]byte, 2048)) {
			many++
		}
	}
	if len(leaves) > 0 && !bytes.Equal(m.live, make([]byte, 8192)) {
		many++
	}
	return many
}

// run is a store beside its model.
type run struct {
	s    *Store
	d    *disk.Disk
	m    model
	rand *rand.Rand
	seen map[string]int
}

// gone tells how many checkpoints a Commit must let go; all of them: it has no room.
func (r *run) gone(t *testing.T) int {
	t.Helper()
	snaps := r.s.Snaps()
	for i := range snaps {
		if r.d.Len()-2-len(reachedOnce(t, r.d, snaps[i:])) >= r.m.cost() {
			return i
		}
	}
	return len(snaps)
}

// mustAgree holds all of the store to the model. Roots go to and fro, from the first one on sector 0 on.
func (r *run) mustAgree(t *testing.T) {
	t.Helper()
	gens := []uint64{}
	for _, one := range r.m.list {
		gens = append(gens, one.gen)
	}
	mustHaveGens(t, r.s, gens...)
	mustBe(t, r.s, r.m.live)
	mustHold(t, r.s, r.d)
	if !same(pagesOf(t, r.s, r.d), r.m.pages()) {
		t.Fatal("a checkpoint isn't what it was")
	}
	mustStand(t, r.s, r.d, int(r.m.gen+1)%2, r.m.gen)
}

func (r *run) write(t *testing.T) {
	t.Helper()
	live := bytes.Clone(r.m.live)
	low, wide := r.rand.Intn(128), 1+r.rand.Intn(30)
	for range r.rand.Intn(8) {
		at, b := min(low+r.rand.Intn(wide), 127), noughts()
		if r.rand.Intn(3) > 0 {
			b = fill(r.rand.Intn(256))
		}
		mustWrite(t, r.s, at, b)
		copy(live[at*64:], b)
	}
	r.m.live = live
}

func (r *run) commit(t *testing.T) {
	t.Helper()
	switch gone := r.gone(t); gone {
	case 0:
		r.try(t, r.s.Commit, r.m.cost()+3, r.m.committed())
	case len(r.m.list):
		r.seen["full"]++
		r.mustRefuse(t, r.s.Commit, api.ErrFull)
		r.abort()
	default:
		r.seen["let go"]++
		less := r.m.letGo(gone)
		next := model{less.list, less.gen, r.m.live}.committed()
		r.try(t, r.s.Commit, r.m.cost()+5, less, next)
	}
}

func (r *run) undo(t *testing.T) {
	t.Helper()
	n := r.rand.Intn(6) - 1
	if n > 0 && n < len(r.m.list) {
		r.seen["undo"]++
		r.try(t, func() api.Errno { return r.s.Undo(n) }, 2, r.m.undone(n))
	} else {
		r.mustRefuse(t, func() api.Errno { return r.s.Undo(n) }, api.ErrUndo)
	}
}

func (r *run) mustRefuse(t *testing.T, call func() api.Errno, want api.Errno) {
	t.Helper()
	ahead := tell(r.s, r.d)
	if e := call(); e != want || r.s.Down() {
		t.Fatal("it answers", e, r.s.Down(), "want", want)
	}
	mustStay(t, r.s, r.d, ahead)
}

func (r *run) abort() {
	r.s.Abort()
	r.m = r.m.aborted()
}

// try does a call, at times with the power going in it, by which it may come to each of the ways; else it comes to the last one.
func (r *run) try(t *testing.T, call func() api.Errno, acts int, ways ...model) {
	t.Helper()
	left := -1
	if r.rand.Intn(3) == 0 {
		left = r.rand.Intn(acts + 1)
	}
	r.d.Arm(left)
	was := r.d.Acts()
	e := call()
	if left < 0 || left >= acts {
		if e != api.OK || r.s.Down() || r.d.Acts()-was != acts {
			t.Fatal("it answers", e, r.s.Down(), "behind", r.d.Acts()-was, "acts, want", acts)
		}
		r.m = ways[len(ways)-1]
		r.d.Arm(-1)
		return
	}
	if e != api.ErrDown || !r.s.Down() || r.d.Acts()-was != left {
		t.Fatal("it answers", e, r.s.Down(), "behind", r.d.Acts()-was, "acts, want", left)
	}
	r.reopen(t, append(ways, r.m.aborted()))
}

// reopen brings the power back and takes that way as the model whose root counts.
func (r *run) reopen(t *testing.T, ways []model) {
	t.Helper()
	f := api.Fate{Stay: r.rand.Uint64(), Torn: r.rand.Intn(len(r.d.Waiting())+2) - 1, Cut: r.rand.Intn(67) - 1, Head: r.rand.Intn(2) == 0}
	r.d.Restart(f)
	r.s = mustOpen(t, r.d)
	b := r.d.Bytes()
	counts, _, e := root.Choose(b[:64], b[64:128])
	at := slices.IndexFunc(ways, func(m model) bool { return m.gen == counts.Gen })
	if e != api.OK || at < 0 {
		t.Fatal("the root is", counts, e)
	}
	r.m = ways[at]
	r.seen["power"]++
	if at < len(ways)-1 {
		r.seen["power, yet it went on"]++
	}
}

func TestManyRuns(t *testing.T) { // P8.1 to P8.9: small disks and large ones, with the power going at times
	seen := map[string]int{}
	for seed := range int64(80) {
		random := rand.New(rand.NewSource(seed))
		s, d := mustFormat(t, 8+random.Intn(50))
		blank := make([]byte, 8192)
		r := &run{s, d, model{[]past{{1, blank}}, 1, blank}, random, seen}
		for range 120 {
			switch random.Intn(8) {
			case 0:
				r.abort()
			case 1:
				r.undo(t)
			case 2, 3, 4:
				r.write(t)
			default:
				r.commit(t)
			}
			r.mustAgree(t)
		}
	}
	for _, kind := range []string{"full", "let go", "undo", "power", "power, yet it went on"} {
		if seen[kind] < 50 {
			t.Fatal("too few of", kind, seen)
		}
	}
}

func TestPowerThatWentBetweenCalls(t *testing.T) { // P8.4, P8.6
	for _, call := range []func(s *Store) api.Errno{commit, undo(1)} {
		s, d := grown(t, 20, 2)
		d.Arm(0)
		d.Flush()
		if e := call(s); e != api.ErrDown {
			t.Fatal("it answers", e)
		}
		mustBeDown(t, s)
		d.Restart(api.Fate{})
		mustBeDown(t, s)
		mustBe(t, mustOpen(t, d), memoryWith(map[int]int{3: 2}))
	}
}

func TestDisksThatOthersWrote(t *testing.T) { // P1, P4: what is wrong is answered, and changes nothing
	s, d := grown(t, 20, 3)
	for _, at := range []int{2, 3} {
		d.Write(s.Snaps()[at].Top, lay(entries{4: 4}))
	}
	put(t, s, 9, 3)
	ahead := tell(s, d)
	for range 2 {
		for _, call := range []func(s *Store) api.Errno{commit, undo(1)} {
			if e := call(s); e != api.ErrTree || s.Down() {
				t.Fatal("it answers", e, s.Down())
			}
			mustStay(t, s, d, ahead)
			mustBe(t, s, memoryWith(map[int]int{3: 9}))
		}
	}
	mustUndo(t, s, 2)
	mustHaveGens(t, s, 1, 2)
	mustBe(t, mustOpen(t, d), memoryWith(map[int]int{3: 1}))
}

func TestGensAtTheirEnd(t *testing.T) { // P1: nothing is promised but that calls end
	for _, gen := range []uint64{math.MaxUint64, math.MaxUint64 - 1, math.MaxUint64 - 2} {
		for _, one := range []uint64{0, 1, gen} {
			s := mustOpen(t, diskOf(map[int][]byte{0: record(t, gen, api.Snap{Gen: one})}))
			for range 5 {
				put(t, s, 3, 3, 40, 80)
				s.Commit()
				s.Undo(1)
				s.Abort()
				wipe(t, s, 3, 40)
				s.Commit()
			}
		}
	}
}
