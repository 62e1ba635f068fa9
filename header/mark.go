package header

import (
	"carrel/api"
	"carrel/mem"
)

// mark is the byte behind the link: in its lower bits the name's length, and marks above them.
type mark byte

const lengthBits = 5

// The marks, by their places.
const (
	spareMark mark = 1 << (lengthBits + iota) // counts for nothing, but stays
	hiddenMark
	immediateMark
)

const (
	lengths  = spareMark - 1
	allMarks = hiddenMark | immediateMark
)

func (k mark) length() int64 { return int64(k & lengths) }

func (k mark) has(one mark) bool { return k&one != 0 }

// marks puts together those that hold.
func marks(immediate, hidden bool) mark {
	k := mark(0)
	if immediate {
		k |= immediateMark
	}
	if hidden {
		k |= hiddenMark
	}
	return k
}

// markOf tells the byte of the header at a place.
func markOf(m *mem.Mem, at int64) mark { return mark(m.Load(int(at)+markAt, 1)[0]) }

// wrong tells what is thrown of a word that may not have this name.
func wrong(name string) int {
	switch {
	case name == "":
		return api.ThrowName
	case len(name) > api.MaxWord:
		return api.ThrowLong
	}
	return noThrow
}
