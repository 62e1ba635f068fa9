package space

import "math/bits"

const wordSize = 64 // bits of a word

// set is numbers from 0 on: n is in it, if bit n%wordSize of word n/wordSize is set.
type set []uint64

// newSet makes an empty set with room for the numbers below bound.
func newSet(bound int) set { return make(set, (bound+wordSize-1)/wordSize) }

func (s set) put(n int) { s[n/wordSize] |= 1 << (n % wordSize) }

func (s set) drop(n int) { s[n/wordSize] &^= 1 << (n % wordSize) }

func (s set) many() int {
	many := 0
	for _, word := range s {
		many += bits.OnesCount64(word)
	}
	return many
}

// lowest tells the lowest number that is in the set; of an empty one 0.
func (s set) lowest() int {
	for w, word := range s {
		if word != 0 {
			return w*wordSize + bits.TrailingZeros64(word)
		}
	}
	return 0
}

// without tells the numbers from low on, below bound, that aren't in the set, rising.
func (s set) without(low, bound int) []int {
	list := []int{}
words:
	for w, word := range s {
		for i := range wordSize {
			n := w*wordSize + i
			switch {
			case n >= bound:
				break words
			case n >= low && word>>i&1 == 0:
				list = append(list, n)
			}
		}
	}
	return list
}
