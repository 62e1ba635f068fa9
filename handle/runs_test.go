package handle

import (
	"math/rand"
	"testing"

	"carrel/api"
	"carrel/fs"
	"carrel/mem"
)

var runNames = [...]string{"a", "b", "c", "d", "e", "f", "g", "h", "i", "j", "", "a b"}

// cellNumber is a number that a cell may be found with.
func cellNumber(r *rand.Rand) int64 {
	switch r.Intn(4) {
	case 0:
		return int64(r.Uint64())
	case 1:
		return int64(r.Intn(100))
	}
	return int64(r.Intn(12)) - 1
}

// step does one call, or something beside the handles, by chance.
func step(p *pair, r *rand.Rand) {
	p.t.Helper()
	name := runNames[r.Intn(len(runNames))]
	h := r.Intn(6)
	switch r.Intn(14) {
	case 0, 1:
		p.create(name)
	case 2, 3:
		p.open(name)
	case 4:
		p.close(h)
	case 5, 6:
		p.read(h, r.Intn(100)-3)
	case 7, 8:
		b := make([]byte, r.Intn(120))
		r.Read(b)
		p.write(h, b)
	case 9:
		p.resize(h, r.Intn(300)-5)
	case 10:
		p.seek(h, r.Intn(150)-5)
	case 11:
		p.remove(name)
	case 12:
		if r.Intn(3) == 0 {
			p.cell(1+r.Intn(4), r.Intn(2), cellNumber(r))
		}
	case 13:
		from, to := "a", runNames[r.Intn(10)]
		if _, e := fs.Find(p.m, from); e == api.OK && from != to {
			p.below(func(m *mem.Mem) api.Errno {
				fs.Rename(m, from, to) // another file may have that name
				return api.OK
			})
		}
	}
}

// Whatever is done: every byte is what the chapter's words make of it.
func TestRuns(t *testing.T) {
	for seed := range int64(30) {
		r := rand.New(rand.NewSource(100 + seed))
		p := fresh(t, r)
		for range 120 {
			step(p, r)
		}
	}
}

// Cells by chance, ahead of each few calls.
func TestStrangeCells(t *testing.T) {
	for seed := range int64(80) {
		r := rand.New(rand.NewSource(1000 + seed))
		p := fresh(t, r)
		for _, name := range runNames[:r.Intn(9)] {
			p.below(func(m *mem.Mem) api.Errno {
				_, e := fs.Create(m, name)
				return e
			})
		}
		for h := 1; h <= 4; h++ {
			p.cell(h, 0, cellNumber(r))
			p.cell(h, 1, cellNumber(r))
		}
		for range 15 {
			step(p, r)
		}
	}
}
