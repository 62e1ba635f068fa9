package stack

import "carrel/mem"

const (
	cellSize = 8
	noThrow  = 0
)

// pile is one of the two stacks: where the address of its top stands, its bounds, and what is thrown where there is no room and where there are too few cells.
type pile struct {
	mem         *mem.Mem
	at          int
	low, high   int
	over, under int
}

// top tells the address of the top cell. Whatever the cell holds that can't be one counts as that of an empty stack.
func (p pile) top() int {
	a := p.mem.Get(p.at)
	if a < int64(p.low) || a > int64(p.high) || a%cellSize != 0 {
		return p.high
	}
	return int(a)
}

func (p pile) depth() int { return (p.high - p.top()) / cellSize }

// room tells how many cells may still be laid: none in a memory that nothing changes, of which all calls throw.
func (p pile) room() int {
	if _, thrown := p.mem.Cell(int64(p.at)); thrown != noThrow {
		return 0
	}
	return (p.top() - p.low) / cellSize
}

// move makes a place so many cells away from the top the new top. Where nothing comes or goes nothing is stored.
func (p pile) move(cells int) {
	if cells != 0 {
		p.mem.Set(p.at, int64(p.top()+cells*cellSize))
	}
}

// lay lays cells, the last one on top, or none of them.
func (p pile) lay(l ...int64) int {
	if len(l) > p.room() {
		return p.over
	}
	at := p.top()
	p.move(-len(l))
	for _, n := range l {
		at -= cellSize
		p.mem.Set(at, n)
	}
	return noThrow
}

// nth tells the n-th cell from the top, which stays.
func (p pile) nth(n int) (int64, int) {
	if n < 0 || n >= p.depth() {
		return 0, p.under
	}
	return p.mem.Get(p.top() + n*cellSize), noThrow
}

// tell tells the n top cells, the top one last; they stay.
func (p pile) tell(n int) ([]int64, int) {
	n = max(n, 0)
	if n > p.depth() {
		return nil, p.under
	}
	l := make([]int64, n)
	for i := range l {
		l[i], _ = p.nth(n - 1 - i)
	}
	return l, noThrow
}

// take tells the n top cells, which go; their bytes stay.
func (p pile) take(n int) ([]int64, int) {
	l, thrown := p.tell(n)
	p.move(len(l))
	return l, thrown
}

// single takes one cell by a stack's take.
func single(take func(int) ([]int64, int)) (int64, int) {
	l, thrown := take(1)
	if thrown != noThrow {
		return 0, thrown
	}
	return l[0], noThrow
}

func (p pile) clear() { p.mem.Set(p.at, int64(p.high)) }
