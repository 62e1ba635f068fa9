package handle

import (
	"carrel/api"
	"carrel/fs"
	"carrel/mem"
)

const cellSize = 8

// cells are a handle's two cells as they stand in the memory, whatever they hold.
type cells struct {
	file  int64 // an inode's number and 1
	place int64
}

// open is what an open handle has, each as it counts.
type open struct {
	node, place, size int
}

// at tells where a handle's cells stand.
func at(h int) int { return api.FilesAt + 2*cellSize*(h-1) }

func told(m *mem.Mem, h int) cells {
	return cells{file: m.Get(at(h)), place: m.Get(at(h) + cellSize)}
}

func lay(m *mem.Mem, h int, c cells) {
	m.Set(at(h), c.file)
	m.Set(at(h)+cellSize, c.place)
}

// opened tells what a handle has, and whether it is open.
func opened(m *mem.Mem, h int) (f open, is bool) {
	if h < 1 || h > api.Handles {
		return open{}, false
	}
	c := told(m, h)
	node := int(c.file - 1)
	size, e := fs.Size(m, node) // refuses what is no inode's number
	if e != api.OK {
		return open{}, false
	}
	return open{node: node, place: c.counts(size), size: size}, true
}

// counts tells the place in a file of a size: cells may hold any number, and the file may have lost bytes since.
func (c cells) counts(size int) int {
	if c.place < 0 || c.place > int64(size) {
		return size
	}
	return int(c.place)
}

// move makes another place an open handle's.
func (f open) move(m *mem.Mem, h, place int) {
	lay(m, h, cells{file: int64(f.node) + 1, place: int64(place)})
}

// closed tells the lowest handle that isn't open.
func closed(m *mem.Mem) (int, api.Errno) {
	for i := range api.Handles {
		if _, is := opened(m, i+1); !is {
			return i + 1, api.OK
		}
	}
	return 0, api.ErrHandles
}

// with does what is asked for with an open handle.
func with(m *mem.Mem, h int, do func(f open) api.Errno) api.Errno {
	if e := fs.Check(m); e != api.OK {
		return e
	}
	f, is := opened(m, h)
	if !is {
		return api.ErrHandle
	}
	return do(f)
}
