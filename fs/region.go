package fs

import (
	"bytes"
	"iter"
	"slices"

	"carrel/api"
	"carrel/extent"
	"carrel/inode"
	"carrel/le"
	"carrel/mem"
)

// Block 0: a number by which the region is told, the set of blocks that files have.
const (
	sign    = 0x53595346
	numLen  = 4
	noBytes = api.PageSize - 2*numLen
)

type block [api.PageSize]byte

// region is a copy of the files' region. What stands in its blocks 0 to 8 is kept as inodes alone, from which bytes make it again; a free inode has no name.
type region struct {
	blocks [api.Blocks]block
	nodes  [api.Inodes]api.Inode
}

// copied tells the region of a memory, if it is as it should be.
func copied(m *mem.Mem) (*region, api.Errno) {
	r := &region{}
	for n := range r.blocks {
		r.blocks[n] = block(m.Load(api.FsAt+n*api.PageSize, api.PageSize))
	}
	for n := range r.nodes {
		x, _, e := inode.Decode(r.blocks[1+n][:])
		if e != api.OK {
			return nil, api.ErrFs
		}
		r.nodes[n] = x
	}
	if !r.isWhole() {
		return nil, api.ErrFs
	}
	return r, api.OK
}

// isWhole holds the inodes against each other, and what they come to against block 0.
func (r *region) isWhole() bool {
	names, used := []string{}, uint32(0)
	for _, x := range r.files() {
		set := extent.Bits(x.Ext)
		if slices.Contains(names, x.Name) || used&set != 0 {
			return false
		}
		names = append(names, x.Name)
		used |= set
	}
	return bytes.Equal(r.blocks[0][:], head(used))
}

// files tells each file's inode, and which one it is.
func (r *region) files() iter.Seq2[int, api.Inode] {
	return func(yield func(int, api.Inode) bool) {
		for n, x := range r.nodes {
			if x.Name != "" && !yield(n, x) {
				return
			}
		}
	}
}

// used answers the set of the blocks that files have.
func (r *region) used() uint32 {
	all := uint32(0)
	for _, x := range r.files() {
		all |= extent.Bits(x.Ext)
	}
	return all
}

// bytes answers the region's bytes. That Encode refuses a free inode is no error: it is noughts.
func (r *region) bytes() []byte {
	r.blocks[0] = block(head(r.used()))
	for n, x := range r.nodes {
		r.blocks[1+n] = block{}
		record, _ := inode.Encode(x)
		copy(r.blocks[1+n][:], record)
	}
	all := []byte{}
	for _, b := range r.blocks {
		all = append(all, b[:]...)
	}
	return all
}

// head answers block 0 with a set.
func head(used uint32) []byte { return joined(num(sign), num(used), make([]byte, noBytes)) }

func num(n uint32) []byte { return le.PutNum(make([]byte, numLen), 0, numLen, uint64(n)) }

func joined(parts ...[]byte) []byte { return slices.Concat(parts...) }

// refusal asks whether all of the names are such that files may have them.
func refusal(names ...string) api.Errno {
	for _, s := range names {
		if !inode.Name(s) {
			return api.ErrName
		}
	}
	return api.OK
}

// find tells the inode of that name.
func (r *region) find(name string) (int, api.Errno) {
	if e := refusal(name); e != api.OK {
		return 0, e
	}
	for n, x := range r.files() {
		if x.Name == name {
			return n, api.OK
		}
	}
	return 0, api.ErrMissing
}

// node tells a file by the number of its inode.
func (r *region) node(n int) (api.Inode, api.Errno) {
	switch {
	case n < 0 || n >= api.Inodes:
		return api.Inode{}, api.ErrRange
	case r.nodes[n].Name == "":
		return api.Inode{}, api.ErrMissing
	}
	return r.nodes[n], api.OK
}

// absent asks for a name that a file may have, and none has.
func (r *region) absent(name string) api.Errno {
	_, e := r.find(name)
	switch e {
	case api.OK:
		return api.ErrExists
	case api.ErrMissing:
		return api.OK
	}
	return e
}

// create takes the lowest inode that is free.
func (r *region) create(name string) (int, api.Errno) {
	if e := r.absent(name); e != api.OK {
		return 0, e
	}
	for n, x := range r.nodes {
		if x.Name == "" {
			r.nodes[n].Name = name
			return n, api.OK
		}
	}
	return 0, api.ErrInodes
}

func (r *region) remove(name string) api.Errno {
	n, e := r.find(name)
	if e != api.OK {
		return e
	}
	r.nodes[n] = api.Inode{}
	return api.OK
}

func (r *region) rename(from, to string) api.Errno {
	if e := refusal(from, to); e != api.OK {
		return e
	}
	n, e := r.find(from)
	if e != api.OK {
		return e
	}
	if e := r.absent(to); e != api.OK {
		return e
	}
	r.nodes[n].Name = to
	return api.OK
}

// resize leaves the bytes that come behind the old size in its last block as they stand: they are noughts, since each resize leaves noughts there.
func (r *region) resize(n, size int) api.Errno {
	x, e := r.node(n)
	switch {
	case e != api.OK:
		return e
	case size < 0:
		return api.ErrRange
	case size > api.MaxFile:
		return api.ErrFsFull
	}
	all := make([]byte, inode.Need(size)*api.PageSize)
	copy(all, r.whole(x))
	clear(all[size:])
	if x.Ext, e = fitted(x.Ext, r.used(), inode.Need(size)); e != api.OK {
		return e
	}
	x.Size = size
	r.nodes[n] = x
	r.spread(x, all)
	return api.OK
}

// fitted answers a file's blocks, grown or shrunk to that many.
func fitted(l []api.Extent, used uint32, many int) ([]api.Extent, api.Errno) {
	if have := extent.Total(l); many > have {
		l, _, e := extent.Grow(l, used, many-have)
		if e != api.OK {
			return nil, api.ErrFsFull
		}
		return l, api.OK
	}
	l, _, e := extent.Shrink(l, used, many)
	return l, e
}

// reach makes a file as long as n bytes from at on take. Their sum is asked for only where at is no more than the size, so that it can't wrap round.
func (r *region) reach(node, at, n int) api.Errno {
	x, e := r.node(node)
	switch {
	case e != api.OK:
		return e
	case at < 0 || at > x.Size:
		return api.ErrRange
	case at+n > x.Size:
		return r.resize(node, at+n)
	}
	return api.OK
}

// put lays bytes into a file that is long enough for them.
func (r *region) put(node, at int, b []byte) api.Errno {
	x := r.nodes[node]
	all := r.whole(x)
	copy(all[at:], b)
	r.spread(x, all)
	return api.OK
}

// data answers n of a file's bytes.
func (r *region) data(x api.Inode, at, n int) []byte {
	out := make([]byte, n)
	copy(out, r.whole(x)[at:])
	return out
}

// whole answers all bytes of a file's blocks, one behind the other.
func (r *region) whole(x api.Inode) []byte {
	all := []byte{}
	for n := range extent.Total(x.Ext) {
		at, _ := extent.Block(x.Ext, n)
		all = append(all, r.blocks[at][:]...)
	}
	return all
}

// spread lays what whole would answer into a file's blocks.
func (r *region) spread(x api.Inode, all []byte) {
	for n := range extent.Total(x.Ext) {
		at, _ := extent.Block(x.Ext, n)
		r.blocks[at] = block(all[n*api.PageSize:])
	}
}
