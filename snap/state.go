package snap

import (
	"slices"

	"carrel/api"
	"carrel/disk"
	"carrel/root"
	"carrel/shadow"
	"carrel/space"
	"carrel/walk"
)

// The sectors for root records.
const (
	rootLow  = 0
	rootHigh = 1
)

type content [api.PageSize]byte

type memory [api.Pages]content

// checkpoint has what its tree reaches with it, so that this can be told when the power is off, too.
type checkpoint struct {
	api.Snap
	sectors []int
}

// state is what a store is, but for the power. Its methods are the steps in which it comes to another one; each throws what goes wrong, and attempt catches it.
type state struct {
	disk  *disk.Disk
	gen   uint64       // of the root that counts
	at    int          // the sector on which that one stands
	list  []checkpoint // the oldest first; never changed in place, since two states may have it
	saved memory       // as in the last checkpoint
	live  memory       // what is now
}

// attempt does steps one by one, up to the first that can't be done.
func attempt(steps ...func()) (e api.Errno) {
	defer func() {
		if thrown := recover(); thrown != nil {
			e = thrown.(api.Errno)
		}
	}()
	for _, step := range steps {
		step()
	}
	return api.OK
}

func demand(e api.Errno) {
	if e != api.OK {
		panic(e)
	}
}

// fits asks whether there can be a store on the disk.
func (w *state) fits() {
	if w.disk == nil {
		panic(api.ErrRange)
	}
	if w.disk.Down() {
		panic(api.ErrDown)
	}
	if w.disk.Len() < api.MinDisk {
		panic(api.ErrRange)
	}
}

// start adds the first checkpoint, which comes with the root that is written next.
func (w *state) start() { w.add(0) }

// add takes the tree of a top as the last checkpoint. Of more than are kept the oldest is dropped.
func (w *state) add(top int) {
	all := slices.Concat(w.list, []checkpoint{w.reached(api.Snap{Gen: w.gen + 1, Top: top})})
	w.list = all[max(len(all)-api.Keep, 0):]
}

func (w *state) reached(s api.Snap) checkpoint {
	sectors, e := walk.Reach(w.disk, s.Top)
	demand(e)
	return checkpoint{Snap: s, sectors: sectors}
}

func (w *state) last() checkpoint { return w.list[len(w.list)-1] }

func (w *state) snaps() []api.Snap {
	l := make([]api.Snap, len(w.list))
	for i, c := range w.list {
		l[i] = c.Snap
	}
	return l
}

// other is the sector for the next root: where the one that counts does not stand, so that this one outlives a write that is torn.
func (w *state) other() int { return rootLow + rootHigh - w.at }

// putRoot writes the root of the checkpoints that are in the list. Only the flush behind it makes it the one that counts.
func (w *state) putRoot() {
	b, e := root.Encode(api.Root{Gen: w.gen + 1, Snaps: w.snaps()})
	demand(e)
	demand(w.disk.Write(w.other(), b))
	w.gen, w.at = w.gen+1, w.other()
}

// wipe writes over a root that may be left from an earlier store.
func (w *state) wipe() {
	var noughts content
	demand(w.disk.Write(w.other(), noughts[:]))
}

func (w *state) flush() { demand(w.disk.Flush()) }

// find tells the root that counts, and its checkpoints.
func (w *state) find() {
	r, at, e := root.Choose(w.sector(rootLow), w.sector(rootHigh))
	demand(e)
	w.gen, w.at = r.Gen, at
	for _, s := range r.Snaps {
		w.list = append(w.list, w.reached(s))
	}
}

func (w *state) sector(n int) []byte {
	b, e := w.disk.Read(n)
	demand(e)
	return b
}

// load makes all pages what they are in the last checkpoint.
func (w *state) load() {
	b, e := walk.Load(w.disk, w.last().Top)
	demand(e)
	for i := range w.saved {
		w.saved[i] = content(b[i*api.PageSize : (i+1)*api.PageSize])
	}
	w.live = w.saved
}

// makeRoom lets go as many of the oldest checkpoints as it takes. The root without them has to last ahead of the first write to a sector of theirs.
func (w *state) makeRoom() {
	gone := w.tooMany()
	if gone > 0 {
		w.list = w.list[gone:]
		w.putRoot()
		w.flush()
	}
}

// tooMany tells how many of the oldest checkpoints stand in the way of the next one.
func (w *state) tooMany() int {
	cost, e := shadow.Cost(w.disk, w.last().Top, w.changes())
	demand(e)
	for gone := range w.list {
		if w.held(w.list[gone:]).Free() >= cost {
			return gone
		}
	}
	panic(api.ErrFull)
}

// held tells which sectors the trees of these checkpoints reach. Hold has no error for what was reached on the disk.
func (w *state) held(list []checkpoint) *space.Map {
	m := space.New(w.disk.Len())
	for _, c := range list {
		for _, n := range c.sectors {
			m.Hold(n)
		}
	}
	return m
}

func (w *state) changes() []api.Change {
	l := []api.Change{}
	for i, p := range w.live {
		if p != w.saved[i] {
			l = append(l, api.Change{Page: i, Data: p[:]})
		}
	}
	return l
}

// build writes the tree of what is now beside those that are held, and takes it as the last checkpoint.
func (w *state) build() {
	top, e := shadow.Build(w.disk, w.held(w.list), w.last().Top, w.changes())
	demand(e)
	w.add(top)
	w.saved = w.live
}
