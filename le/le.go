// Package le is layer 1: see shared/doc/01-le.md.
package le

const (
	cellSize = 8
	crcTerms = 0xEDB88320
)

// Cell tells the cell whose bytes stand from at on; bytes outside b count as 0 (P1.1).
func Cell(b []byte, at int) int64 { return int64(Num(b, at, cellSize)) }

// PutCell answers b in new memory with n's bytes from at on; bytes outside b are lost (P1.1).
func PutCell(b []byte, at int, n int64) []byte { return PutNum(b, at, cellSize, uint64(n)) }

// Num tells the number of size bytes, at most 8, that stands from at on (P1.2).
func Num(b []byte, at, size int) uint64 {
	n := uint64(0)
	for i := range within(size, cellSize) {
		n |= uint64(byteOf(b, at, i)) << (8 * i)
	}
	return n
}

// PutNum answers b in new memory with n's lowest size bytes, at most 8, from at on (P1.2).
func PutNum(b []byte, at, size int, n uint64) []byte {
	out := make([]byte, len(b))
	copy(out, b)
	put := func(i int) {
		if inside(len(out), at, i) {
			out[at+i] = byte(n >> (8 * i))
		}
	}
	for i := range within(size, cellSize) {
		put(i)
	}
	return out
}

// Crc tells the check sum of b (P1.3).
func Crc(b []byte) uint32 {
	sum := ^uint32(0)
	for i := range len(b) {
		sum = crcByte(sum ^ uint32(b[i]))
	}
	return ^sum
}

func crcByte(sum uint32) uint32 {
	for range 8 {
		fell := sum & 1
		sum >>= 1
		if fell == 1 {
			sum ^= crcTerms
		}
	}
	return sum
}

// Mix answers len(a) bytes, of a up to cut and of b from there on, or, without head, the other way round (P1.4).
func Mix(a, b []byte, cut int, head bool) []byte {
	before, behind := a, b
	if !head {
		before, behind = b, a
	}
	out := make([]byte, len(a))
	cut = within(cut, len(a))
	for i := range len(out) {
		if i < cut {
			out[i] = byteOf(before, 0, i)
		} else {
			out[i] = byteOf(behind, 0, i)
		}
	}
	return out
}

func byteOf(b []byte, at, i int) byte {
	if !inside(len(b), at, i) {
		return 0
	}
	return b[at+i]
}

// inside tells whether the place at+i lies below length. It asks for at by itself first, since the sum could wrap round.
func inside(length, at, i int) bool {
	return at < length && at+i >= 0 && at+i < length
}

func within(n, most int) int { return min(max(n, 0), most) }
