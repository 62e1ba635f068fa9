package fs

import (
	"bytes"
	"math"
	"math/rand"
	"strings"
	"testing"

	"carrel/api"
	"carrel/mem"
)

// edges are numbers at the bounds of inodes, sizes and blocks, and such that sums of them wrap round.
var edges = []int{math.MinInt, math.MinInt + 1, -1 << 32, -65, -64, -1, 0, 1, 2, 6, 7, 8, 9, 63, 64, 65, 127, 128, 129, 1407, 1408, 1409, 1471, 1472, 1473, 2047, 2048, 8191, 8192, 65536, 65537, 1 << 31, 1 << 32, 1<<32 + 1, math.MaxInt - 1472, math.MaxInt - 64, math.MaxInt - 1, math.MaxInt}

// names are such that a file may have, and others.
var names = []string{"a", "b", "c", "A", "~", "!", "a/b", "..", "fifteen-bytes!!", "", " ", "a b", "sixteen-bytes!!!", "é", "\x00", "a\x00", "\x7f", "\xff", strings.Repeat("a", 300)}

// apart is a pair whose files' blocks stand between each other: a has 9, 11, 13, b 10, 12, 14 and 15, d none, and inode 2 is free.
func apart(t *testing.T) *pair {
	t.Helper()
	p := formatted(t)
	for _, s := range []string{"a", "b", "c", "d"} {
		p.must(p.create(s), api.OK)
	}
	r := rand.New(rand.NewSource(9))
	for n := range 3 {
		p.must(p.write(0, 64*n, text(64, r)), api.OK)
		p.must(p.write(1, 64*n, text(64, r)), api.OK)
	}
	p.must(p.write(1, 192, text(40, r)), api.OK)
	p.must(p.resize(0, 170), api.OK)
	p.must(p.remove("c"), api.OK)
	return p
}

func TestExampleOfTheChapter(t *testing.T) {
	m := mem.Flat(nil)
	Format(m)
	n, e := Create(m, "a")
	if n != 0 || e != api.OK || Write(m, n, 0, bytes.Repeat([]byte{7}, 70)) != api.OK {
		t.Fatal(n, e)
	}
	if b := m.Load(blockAt(1), 20); b[16] != 70 || b[18] != 9 || b[19] != 2 {
		t.Fatal(b)
	}
	if e := Delete(m, "a"); e != api.OK {
		t.Fatal(e)
	}
	n, e = Create(m, "b")
	if n != 0 || e != api.OK || Write(m, n, 0, []byte{8}) != api.OK {
		t.Fatal(n, e)
	}
	if b := m.Load(blockAt(1), 21); b[16] != 1 || b[18] != 9 || b[19] != 1 || b[20] != 0 {
		t.Fatal(b)
	}
}

func TestFormat(t *testing.T) { // P12.1
	m := mem.Flat(filled())
	Format(m)
	want := filled()
	clear(want[6144:6720])
	copy(want[6144:], "FSYS")
	if !bytes.Equal(m.Bytes(), want) {
		t.Fatal(m.Load(6144, 700))
	}
	if l, e := Files(m); len(l) != 0 || e != api.OK {
		t.Fatal(l, e)
	}
	formatted(t).mustStand("Format")
}

func TestFormatOfFiles(t *testing.T) { // P12.1: their bytes stay, they don't
	p := apart(t)
	p.w = newModel(p.w.all)
	Format(p.m)
	p.mustStand("Format")
}

func TestCheckOfNothing(t *testing.T) { // P12.2
	for _, m := range []*mem.Mem{nil, {}, mem.Flat(nil), mem.Flat(filled())} {
		mustAllBeErrFs(t, m)
	}
	Format(nil)
	Format(&mem.Mem{})
	mustAllBeErrFs(t, nil)
	mustAllBeErrFs(t, &mem.Mem{})
}

// mustAllBeErrFs asks that each call answers ErrFs, whatever else is wrong, and changes nothing.
func mustAllBeErrFs(t *testing.T, m *mem.Mem) {
	t.Helper()
	was := m.Bytes()
	if e := Check(m); e != api.ErrFs {
		t.Fatal("Check answers", e)
	}
	if l, e := Files(m); l != nil || e != api.ErrFs {
		t.Fatal("Files answers", l, e)
	}
	for _, s := range []string{"a", "b", "zz", ""} {
		n, e := Find(m, s)
		k, f := Create(m, s)
		if n != 0 || e != api.ErrFs || k != 0 || f != api.ErrFs {
			t.Fatal("Find, Create answer", n, e, k, f)
		}
		if e, f := Delete(m, s), Rename(m, s, "c"); e != api.ErrFs || f != api.ErrFs {
			t.Fatal("Delete, Rename answer", e, f)
		}
	}
	for _, n := range []int{-1, 0, 1, 8} {
		size, e := Size(m, n)
		b, f := Read(m, n, n, n)
		if size != 0 || e != api.ErrFs || b != nil || f != api.ErrFs {
			t.Fatal("Size, Read answer", size, e, b, f)
		}
		if e, f := Resize(m, n, n), Write(m, n, n, []byte{1}); e != api.ErrFs || f != api.ErrFs {
			t.Fatal("Resize, Write answer", e, f)
		}
	}
	if !bytes.Equal(m.Bytes(), was) {
		t.Fatal("the memory was changed")
	}
}

func TestCheckOfBlockNought(t *testing.T) { // P12.2: any other byte is wrong
	p := apart(t)
	for at := range 64 {
		for c := range 256 {
			m := mem.Flat(p.w.all)
			m.Lay(6144+at, []byte{byte(c)})
			if want := c == int(p.w.all[6144+at]); (Check(m) == api.OK) != want {
				t.Fatal(at, c, Check(m))
			}
		}
		m := mem.Flat(p.w.all)
		m.Lay(6144+at, []byte{p.w.all[6144+at] ^ 1})
		mustAllBeErrFs(t, m)
	}
}

func TestCheckOfInodes(t *testing.T) { // P12.2: each byte of each one
	p := apart(t)
	for at := blockAt(1); at < blockAt(9); at++ {
		m := mem.Flat(p.w.all)
		m.Lay(at, []byte{p.w.all[at] + 40}) // of a letter, too, that makes no letter
		mustAllBeErrFs(t, m)
	}
}

// put lays an inode's bytes into a memory.
func put(m *mem.Mem, n int, name string, size int, pairs ...byte) {
	b := make([]byte, 64)
	b[0] = byte(len(name))
	copy(b[1:], name)
	b[16], b[17] = byte(size%256), byte(size/256)
	copy(b[18:], pairs)
	m.Lay(blockAt(1+n), b)
}

func TestCheckOfTwoInodes(t *testing.T) { // P12.2
	with := func(set int, lay func(m *mem.Mem)) *mem.Mem {
		m := mem.Flat(nil)
		Format(m)
		m.Lay(6148, []byte{byte(set), byte(set >> 8), byte(set >> 16), byte(set >> 24)})
		lay(m)
		return m
	}
	good := []*mem.Mem{
		with(0, func(m *mem.Mem) { put(m, 0, "a", 0); put(m, 7, "b", 0) }),
		with(1<<9|1<<10, func(m *mem.Mem) { put(m, 0, "a", 1, 9, 1); put(m, 7, "b", 1, 10, 1) }),
		with(1<<9|1<<10|1<<31, func(m *mem.Mem) { put(m, 3, "b", 70, 31, 1, 9, 1); put(m, 4, "B", 64, 10, 1) }),
	}
	for _, m := range good {
		if l, e := Files(m); Check(m) != api.OK || len(l) != 2 || e != api.OK {
			t.Fatal(Check(m), l, e)
		}
	}
	for i, m := range []*mem.Mem{
		with(0, func(m *mem.Mem) { put(m, 0, "a", 0); put(m, 7, "a", 0) }),
		with(1<<9|1<<10, func(m *mem.Mem) { put(m, 2, "a", 1, 9, 1); put(m, 3, "a", 1, 10, 1) }),
		with(1<<9, func(m *mem.Mem) { put(m, 0, "a", 1, 9, 1); put(m, 7, "b", 1, 9, 1) }),
		with(7<<9, func(m *mem.Mem) { put(m, 0, "a", 100, 9, 2); put(m, 1, "b", 100, 10, 2) }),
		with(7<<9, func(m *mem.Mem) { put(m, 0, "a", 1, 9, 1); put(m, 1, "b", 100, 10, 2); put(m, 2, "c", 1, 11, 1) }),
		with(1<<9, func(m *mem.Mem) { put(m, 0, "a", 1, 9, 1); put(m, 1, "b", 1, 10, 1) }),
		with(0, func(m *mem.Mem) { put(m, 0, "a", 1, 9, 1) }),
		with(1<<9, func(m *mem.Mem) { put(m, 0, "a", 0) }),
		with(3<<9, func(m *mem.Mem) { put(m, 0, "a", 1, 9, 1) }),
		with(1<<9, func(m *mem.Mem) {}),
		with(1, func(m *mem.Mem) {}),
		with(1<<8, func(m *mem.Mem) {}),
		with(1<<31, func(m *mem.Mem) {}),
		with(1<<8, func(m *mem.Mem) { put(m, 0, "a", 1, 8, 1) }),
		with(0, func(m *mem.Mem) { put(m, 0, "", 0); m.Lay(blockAt(2)-1, []byte{1}) }),
		with(1<<9, func(m *mem.Mem) { put(m, 0, "", 1, 9, 1) }),
		with(1<<9, func(m *mem.Mem) { put(m, 0, "a b", 1, 9, 1) }),
	} {
		if Check(m) != api.ErrFs {
			t.Error(i, Check(m))
		}
		mustAllBeErrFs(t, m)
	}
}

func TestFilesStandByInodes(t *testing.T) { // P12.3
	p := formatted(t)
	for _, s := range []string{"z", "m", "a", "q"} {
		p.create(s)
	}
	p.write(0, 0, []byte("last"))
	p.write(2, 0, []byte("first"))
	p.remove("m")
	l, e := Files(p.m)
	if e != api.OK || len(l) != 3 || l[0].Name != "z" || l[1].Name != "a" || l[2].Name != "q" || string(l[0].Data) != "last" || string(l[1].Data) != "first" || len(l[2].Data) != 0 {
		t.Fatal(l, e)
	}
	p.create("y")
	if l, _ := Files(p.m); len(l) != 4 || l[1].Name != "y" {
		t.Fatal(l)
	}
}

func TestFind(t *testing.T) { // P12.3
	p := apart(t)
	for _, s := range names {
		p.find(s)
	}
	for s, want := range map[string]api.Errno{"": api.ErrName, "a b": api.ErrName, "sixteen-bytes!!!": api.ErrName, "c": api.ErrMissing, "aa": api.ErrMissing, "A": api.ErrMissing, "d": api.OK} {
		p.must(p.find(s), want)
	}
}

func TestSize(t *testing.T) { // P12.3
	p := apart(t)
	for _, n := range edges {
		size, e := Size(p.m, n)
		f, want := p.w.node(n)
		if e != want || f != nil && size != f.size || f == nil && size != 0 {
			t.Fatal(n, size, e)
		}
	}
	if n, e := Size(p.m, 0); n != 170 || e != api.OK {
		t.Fatal(n, e)
	}
	for n, want := range map[int]api.Errno{-1: api.ErrRange, 8: api.ErrRange, 2: api.ErrMissing, 7: api.ErrMissing} {
		if _, e := Size(p.m, n); e != want {
			t.Fatal(n, e)
		}
	}
}

func TestCreate(t *testing.T) { // P12.4
	p := formatted(t)
	for i, s := range []string{"g", "f", "e", "d", "c", "b", "a", "fifteen-bytes!!"} {
		p.must(p.create(""), api.ErrName)
		p.must(p.create(s), api.OK)
		p.must(p.create(s), api.ErrExists)
		if n, _ := Find(p.m, s); n != i {
			t.Fatal(s, n)
		}
	}
	p.must(p.create("h"), api.ErrInodes)
	p.must(p.create("a"), api.ErrExists)
	p.must(p.create("a b"), api.ErrName)
	p.must(p.remove("b"), api.OK)
	p.must(p.remove("e"), api.OK)
	p.must(p.create("h"), api.OK)
	if n, _ := Find(p.m, "h"); n != 2 {
		t.Fatal(n)
	}
	for _, s := range names {
		p.create(s)
	}
}

func TestDelete(t *testing.T) { // P12.5
	for _, s := range names {
		apart(t).remove(s)
	}
	p := apart(t)
	p.must(p.remove("c"), api.ErrMissing)
	p.must(p.remove("c c"), api.ErrName)
	p.must(p.remove("a"), api.OK)
	p.must(p.remove("a"), api.ErrMissing)
	p.must(p.write(3, 0, text(200, rand.New(rand.NewSource(3)))), api.OK) // blocks 9, 11, 13 and 16
	if b := p.m.Load(blockAt(4)+18, 9); !bytes.Equal(b, []byte{9, 1, 11, 1, 13, 1, 16, 1, 0}) {
		t.Fatal(b)
	}
	p.must(p.remove("d"), api.OK)
	p.must(p.remove("b"), api.OK)
	if b := p.m.Load(6148, 4); !bytes.Equal(b, make([]byte, 4)) {
		t.Fatal(b)
	}
}

func TestRename(t *testing.T) { // P12.5
	for _, from := range names {
		for _, to := range names {
			apart(t).rename(from, to)
		}
	}
	p := apart(t)
	p.must(p.rename("a", "a"), api.ErrExists)
	p.must(p.rename("a", "b"), api.ErrExists)
	p.must(p.rename("c", "b"), api.ErrMissing)
	p.must(p.rename("c", ""), api.ErrName)
	p.must(p.rename("", "c"), api.ErrName)
	p.must(p.rename("c", "c"), api.ErrMissing)
	p.must(p.rename("a", "fifteen-bytes!!"), api.OK)
	p.must(p.rename("fifteen-bytes!!", "c"), api.OK)
	p.must(p.rename("b", "a"), api.OK)
}

func TestRenameOfAll(t *testing.T) { // P12.5: no inode need be free
	p := formatted(t)
	for _, s := range "abcdefgh" {
		p.create(string(s))
	}
	for _, s := range "abcdefgh" {
		p.must(p.rename(string(s), "new-"+string(s)), api.OK)
	}
}

func TestResize(t *testing.T) { // P12.6: from each of these sizes to each
	sizes := []int{0, 1, 2, 30, 63, 64, 65, 100, 127, 128, 129, 192, 193, 500, 959, 960, 961, 1023, 1024, 1025, 1472}
	for _, from := range sizes {
		for _, to := range sizes {
			p := apart(t)
			if p.resize(3, from) != api.OK {
				continue
			}
			p.must(p.write(3, 0, text(from, rand.New(rand.NewSource(1)))), api.OK)
			p.resize(3, to)
			p.resize(3, from)
		}
	}
}

func TestResizeOfWrongNumbers(t *testing.T) { // P12.6
	p := apart(t)
	for _, node := range edges {
		for _, size := range edges {
			p.resize(node, size)
		}
	}
	p.must(p.resize(-1, -1), api.ErrRange)
	p.must(p.resize(2, -1), api.ErrMissing)
	p.must(p.resize(2, 5000), api.ErrMissing)
	p.must(p.resize(3, -1), api.ErrRange)
	p.must(p.resize(3, math.MaxInt), api.ErrFsFull)
}

func TestResizeToFull(t *testing.T) { // P12.6: just what there is room for, and one byte more
	p := apart(t) // 16 blocks are free
	p.must(p.resize(3, 1025), api.ErrFsFull)
	p.must(p.resize(3, 1024), api.OK)
	p.must(p.resize(0, 193), api.ErrFsFull)
	p.must(p.resize(0, 192), api.OK)
	p.must(p.resize(1, 256), api.OK)
	p.must(p.resize(1, 257), api.ErrFsFull)
	p.must(p.resize(3, 960), api.OK)
	p.must(p.resize(1, 320), api.OK)
	p = formatted(t)
	p.create("a")
	p.must(p.resize(0, 1473), api.ErrFsFull)
	p.must(p.resize(0, 1472), api.OK)
	p.create("b")
	p.must(p.resize(1, 0), api.OK)
	p.must(p.resize(1, 1), api.ErrFsFull)
}

func TestResizeLaysNoughts(t *testing.T) { // P12.6: behind the new size in the last block, whatever stood there
	for size := range 130 {
		p := apart(t)
		for _, at := range []int{blockAt(9), blockAt(11), blockAt(13)} {
			junk := bytes.Repeat([]byte{99}, 64)
			p.m.Lay(at, junk)
			copy(p.w.all[at:], junk)
		}
		p.must(p.resize(0, 170), api.OK) // the size that it has
		p.must(p.resize(0, size), api.OK)
	}
}

func TestResizeLeavesWhatWasTheLastBlock(t *testing.T) { // P12.6: only blocks that come, and the last one, get noughts
	for _, size := range []int{171, 191, 192, 193, 400} {
		p := apart(t)
		p.m.Lay(blockAt(13)+50, []byte{99, 98, 97})
		copy(p.w.all[blockAt(13)+50:], []byte{99, 98, 97})
		p.must(p.resize(0, size), api.OK)
	}
}

func TestRead(t *testing.T) { // P12.7
	p := apart(t)
	for _, node := range append([]int{3, 4, 5}, edges...) {
		for _, at := range append([]int{169, 170, 171, 231, 232, 233}, edges...) {
			for _, n := range append([]int{169, 170, 171, 232}, edges...) {
				p.read(node, at, n)
			}
		}
	}
	for at := range 240 {
		for n := range 240 {
			p.read(1, at, n)
		}
	}
	p.mustStand("Read")
}

func TestReadErrors(t *testing.T) { // P12.7
	p := apart(t)
	for _, x := range []struct {
		node, at, n int
		want        api.Errno
	}{
		{-1, -1, -1, api.ErrRange}, {8, 0, 0, api.ErrRange}, {2, -1, -1, api.ErrMissing}, {0, -1, 5, api.ErrRange}, {0, 5, -1, api.ErrRange},
		{0, 500, -1, api.ErrRange}, {3, 0, 0, api.OK}, {3, 1, 1, api.OK}, {0, math.MaxInt, math.MaxInt, api.OK},
	} {
		p.must(p.read(x.node, x.at, x.n), x.want)
	}
}

func TestWrite(t *testing.T) { // P12.8
	r := rand.New(rand.NewSource(4))
	for _, at := range []int{0, 1, 63, 64, 65, 127, 128, 169, 170} {
		for _, n := range []int{0, 1, 2, 22, 23, 64, 65, 105, 106, 107, 170, 300, 1195, 1216} {
			p := apart(t)
			p.write(0, at, text(n, r))
			p.write(0, at, text(n/2, r))
		}
	}
}

func TestWriteErrors(t *testing.T) { // P12.8
	p := apart(t)
	one := []byte{1}
	for _, x := range []struct {
		node, at int
		b        []byte
		want     api.Errno
	}{
		{-1, -1, one, api.ErrRange}, {8, 0, one, api.ErrRange}, {2, -1, one, api.ErrMissing}, {2, 0, nil, api.ErrMissing},
		{0, -1, one, api.ErrRange}, {0, -1, nil, api.ErrRange}, {0, 171, nil, api.ErrRange}, {0, 171, one, api.ErrRange}, {0, 171, make([]byte, 9000), api.ErrRange},
		{0, math.MaxInt, one, api.ErrRange}, {0, math.MinInt, one, api.ErrRange}, {0, 0, make([]byte, 1473), api.ErrFsFull}, {0, 0, make([]byte, 1<<20), api.ErrFsFull},
		{0, 170, make([]byte, 1047), api.ErrFsFull}, {3, 0, make([]byte, 1025), api.ErrFsFull}, {3, 1, nil, api.ErrRange}, {3, 0, nil, api.OK}, {0, 170, nil, api.OK},
	} {
		p.must(p.write(x.node, x.at, x.b), x.want)
	}
	for _, node := range edges {
		for _, at := range edges {
			for _, n := range []int{0, 1, 64, 1300, 1500} {
				p.write(node, at, bytes.Repeat([]byte{5}, n))
			}
		}
	}
}

func TestWriteToFull(t *testing.T) { // P12.8
	p := apart(t)
	r := rand.New(rand.NewSource(5))
	p.must(p.write(3, 0, text(1024, r)), api.OK)
	p.must(p.write(0, 170, text(22, r)), api.OK)
	p.must(p.write(0, 170, text(23, r)), api.ErrFsFull)
	p.must(p.write(0, 0, text(192, r)), api.OK)
	p.must(p.write(0, 0, text(193, r)), api.ErrFsFull)
	p.must(p.write(0, 192, text(1, r)), api.ErrFsFull)
	p.must(p.write(0, 192, nil), api.OK)
	p.must(p.create("e"), api.OK)
	p.must(p.write(2, 0, []byte{1}), api.ErrFsFull)
}

func TestWriteLeavesWhatIsBehind(t *testing.T) { // P12.8: noughts come with Resize alone
	p := apart(t)
	p.m.Lay(blockAt(13)+42, []byte{99, 98})
	copy(p.w.all[blockAt(13)+42:], []byte{99, 98})
	p.must(p.write(0, 160, []byte("0123456789")), api.OK)
	p.must(p.write(0, 161, []byte("0123456789")), api.OK)
}
