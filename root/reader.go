package root

import "carrel/le"

// reader tells a record's numbers one behind the other; its method values are handed to what reads a part of the record.
type reader struct {
	b  []byte
	at int
}

func (in *reader) num(size int) uint64 {
	n := le.Num(in.b, in.at, size)
	in.at += size
	return n
}

func (in *reader) gen() uint64 { return in.num(genSize) }

func (in *reader) short() int { return int(in.num(shortSize)) }
