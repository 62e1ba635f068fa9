package disk

import (
	"bytes"
	"math"
	"math/rand"
	"slices"
	"testing"

	"carrel/api"
	"carrel/le"
)

const (
	all  = uint64(math.MaxUint64)
	none = -1 // a Torn that no write has
)

var outside = []int{math.MinInt, -1 << 32, -64, -1}

// fill is a sector's bytes that tell of v, no two neighbours alike, with other bytes behind their length.
func fill(v int) []byte {
	b := make([]byte, api.PageSize+8)
	for i := range b {
		b[i] = byte(v*37 + i*3 + 1)
	}
	return b[:api.PageSize]
}

func zeros() []byte { return make([]byte, api.PageSize) }

func mustRead(t *testing.T, d *Disk, n int, want []byte) {
	t.Helper()
	b, e := d.Read(n)
	if e != api.OK || len(b) != api.PageSize || !bytes.Equal(b, want) {
		t.Fatalf("Read(%d) = %v, %d, want %v", n, b, e, want)
	}
}

func mustBe(t *testing.T, what string, got, want api.Errno) {
	t.Helper()
	if got != want {
		t.Fatalf("%s: %d, want %d", what, got, want)
	}
}

func mustWrite(t *testing.T, d *Disk, n, v int) {
	t.Helper()
	mustBe(t, "Write", d.Write(n, fill(v)), api.OK)
}

func mustFlush(t *testing.T, d *Disk) {
	t.Helper()
	mustBe(t, "Flush", d.Flush(), api.OK)
}

func mustWait(t *testing.T, d *Disk, want ...int) {
	t.Helper()
	if got := d.Waiting(); !slices.Equal(got, want) {
		t.Fatal("Waiting:", got, "want", want)
	}
}

// mustLast holds the sector as it lasts against want.
func mustLast(t *testing.T, d *Disk, n int, want []byte) {
	t.Helper()
	if got := d.Bytes()[n*api.PageSize:][:api.PageSize]; !bytes.Equal(got, want) {
		t.Fatalf("sector %d lasts as %v, want %v", n, got, want)
	}
}

func TestNewSizes(t *testing.T) { // P2.1
	cases := []struct{ sectors, want int }{
		{math.MinInt, 0}, {-1, 0}, {0, 0}, {1, 1}, {8, 8}, {api.MaxDisk - 1, api.MaxDisk - 1}, {api.MaxDisk, api.MaxDisk}, {api.MaxDisk + 1, api.MaxDisk}, {math.MaxInt, api.MaxDisk},
	}
	for _, c := range cases {
		d := New(c.sectors)
		if d.Len() != c.want || len(d.Bytes()) != c.want*api.PageSize || d.Down() || d.Acts() != 0 || len(d.Waiting()) != 0 {
			t.Error("New of", c.sectors, "has", d.Len(), "sectors, want", c.want, d.Down(), d.Acts(), d.Waiting())
		}
		for n := range c.want {
			mustRead(t, d, n, zeros())
		}
	}
}

func TestDiskWithoutSectors(t *testing.T) { // P2.1: it is up, and a Flush is an act
	for _, d := range []*Disk{New(0), New(-5), Of(nil), Of([]byte{})} {
		_, e := d.Read(0)
		mustBe(t, "Read", e, api.ErrRange)
		mustBe(t, "Write", d.Write(0, fill(1)), api.ErrRange)
		mustFlush(t, d)
		if d.Down() || d.Len() != 0 || len(d.Bytes()) != 0 || d.Acts() != 1 {
			t.Error(d.Down(), d.Len(), d.Bytes(), d.Acts())
		}
		d.Arm(0)
		mustBe(t, "Flush", d.Flush(), api.ErrDown)
		if d.Restart(api.Fate{}); d.Down() {
			t.Error("still down")
		}
	}
}

func TestOfSizes(t *testing.T) { // P2.1: the last sector is filled up, and beyond MaxDisk there is nothing
	most := api.MaxDisk * api.PageSize
	for _, length := range []int{0, 1, 63, 64, 65, 127, 128, 200, most - 1, most, most + 1, most + 500} {
		b := make([]byte, length+70)
		for i := range b {
			b[i] = byte(i%251 + 1)
		}
		whole := bytes.Clone(b)
		b = b[:length]
		d := Of(b)
		many := min((length+63)/64, api.MaxDisk)
		want := make([]byte, many*api.PageSize)
		copy(want, b)
		if d.Len() != many || !bytes.Equal(d.Bytes(), want) || d.Down() || d.Acts() != 0 || len(d.Waiting()) != 0 {
			t.Fatal("Of", length, "bytes:", d.Len(), d.Down(), d.Acts(), d.Waiting())
		}
		for n := range many {
			mustRead(t, d, n, want[n*64:n*64+64])
		}
		if !bytes.Equal(b[:cap(b)][:length+70], whole) {
			t.Fatal("Of changed what it was given")
		}
		for i := range b {
			b[i] = 0
		}
		if !bytes.Equal(d.Bytes(), want) {
			t.Fatal("Of keeps what it was given")
		}
	}
}

func TestOfBytesIsTheDisk(t *testing.T) { // P2.1, P2.6
	d := New(5)
	mustWrite(t, d, 1, 1)
	mustWrite(t, d, 4, 2)
	mustFlush(t, d)
	if e := Of(d.Bytes()); e.Len() != 5 || !bytes.Equal(e.Bytes(), d.Bytes()) {
		t.Error("Of Bytes is another disk")
	}
}

func TestDiskThatNobodyMade(t *testing.T) { // P2.1, P1
	var value Disk
	for name, d := range map[string]*Disk{"nil": nil, "new": new(Disk), "value": &value} {
		for range 2 {
			for _, n := range append([]int{0, 1, math.MaxInt}, outside...) {
				b, e := d.Read(n)
				mustBe(t, name+" Read", e, api.ErrDown)
				if len(b) != 0 {
					t.Fatal("bytes beside an error")
				}
				mustBe(t, name+" Write", d.Write(n, fill(1)), api.ErrDown)
				mustBe(t, name+" Write", d.Write(n, nil), api.ErrDown)
			}
			mustBe(t, name+" Flush", d.Flush(), api.ErrDown)
			if d.Len() != 0 || !d.Down() || len(d.Bytes()) != 0 || d.Acts() != 0 || len(d.Waiting()) != 0 {
				t.Fatal(name, d.Len(), d.Down(), d.Bytes(), d.Acts(), d.Waiting())
			}
			// Neither call makes a disk of it.
			d.Arm(5)
			d.Arm(-1)
			d.Restart(api.Fate{Stay: all, Torn: 0, Cut: 3, Head: true})
		}
	}
}

func TestReadEdges(t *testing.T) { // P2.2, P5
	d := New(3)
	for _, n := range append([]int{3, 4, api.MaxDisk, 1 << 32, math.MaxInt}, outside...) {
		b, e := d.Read(n)
		mustBe(t, "Read", e, api.ErrRange)
		if len(b) != 0 {
			t.Fatal("bytes beside an error")
		}
	}
	for n := range 3 {
		mustRead(t, d, n, zeros())
	}
}

func TestReadTellsWhatWasLastWritten(t *testing.T) { // P2.2, P2.3
	d := New(4)
	mustWrite(t, d, 2, 1)
	mustRead(t, d, 2, fill(1))
	mustWrite(t, d, 2, 2)
	mustRead(t, d, 2, fill(2))
	mustFlush(t, d)
	mustRead(t, d, 2, fill(2))
	mustWrite(t, d, 2, 3)
	mustRead(t, d, 2, fill(3))
	for _, n := range []int{0, 1, 3} {
		mustRead(t, d, n, zeros())
	}
}

func TestReadingIsNoAct(t *testing.T) { // P2.2
	d := New(2)
	d.Arm(1)
	for range 5 {
		mustRead(t, d, 1, zeros())
		d.Len()
		d.Bytes()
		d.Waiting()
	}
	if d.Acts() != 0 {
		t.Error("Acts behind reading:", d.Acts())
	}
	mustWrite(t, d, 0, 1)
	mustRead(t, d, 0, fill(1))
	if d.Acts() != 1 || d.Down() {
		t.Error(d.Acts(), d.Down())
	}
	mustBe(t, "Flush", d.Flush(), api.ErrDown)
}

func TestWriteEdges(t *testing.T) { // P2.3
	d := New(3)
	for _, n := range append([]int{3, 4, math.MaxInt}, outside...) {
		mustBe(t, "Write", d.Write(n, fill(1)), api.ErrRange)
		mustBe(t, "Write", d.Write(n, nil), api.ErrRange)
	}
	for _, b := range [][]byte{nil, {}, fill(1)[:1], fill(1)[:63], make([]byte, 65), make([]byte, 128)} {
		mustBe(t, "Write", d.Write(1, b), api.ErrRange)
	}
	if d.Acts() != 0 || len(d.Waiting()) != 0 || d.Down() {
		t.Fatal("a Write with an error changed something:", d.Acts(), d.Waiting(), d.Down())
	}
	for n := range 3 {
		mustRead(t, d, n, zeros())
		mustWrite(t, d, n, n+1)
		mustRead(t, d, n, fill(n+1))
	}
}

func TestWriteWaitsAndFlushLasts(t *testing.T) { // P2.3, P2.6
	d := New(4)
	mustWrite(t, d, 3, 1)
	mustWrite(t, d, 0, 2)
	mustWrite(t, d, 3, 3)
	if !bytes.Equal(d.Bytes(), make([]byte, 4*64)) {
		t.Fatal("a write lasts that waits")
	}
	mustWait(t, d, 3, 0, 3)
	mustFlush(t, d)
	mustWait(t, d)
	want := slices.Concat(fill(2), zeros(), zeros(), fill(3))
	if !bytes.Equal(d.Bytes(), want) {
		t.Fatal("Bytes behind Flush:", d.Bytes())
	}
	mustWrite(t, d, 1, 4)
	mustWait(t, d, 1)
	if !bytes.Equal(d.Bytes(), want) {
		t.Fatal("a write lasts that waits")
	}
}

func TestActsAreCounted(t *testing.T) { // P2.6
	d := Of(fill(9))
	mustFlush(t, d)
	mustWrite(t, d, 0, 1)
	mustWrite(t, d, 0, 1)
	d.Write(1, fill(1))
	d.Write(0, nil)
	d.Read(0)
	mustFlush(t, d)
	if d.Acts() != 4 {
		t.Fatal("Acts:", d.Acts())
	}
	d.Arm(1)
	mustWrite(t, d, 0, 2)
	d.Write(0, fill(3))
	d.Flush()
	if d.Acts() != 5 {
		t.Fatal("Acts of a disk that is down:", d.Acts())
	}
	d.Restart(api.Fate{Torn: none})
	if d.Acts() != 5 {
		t.Fatal("Acts behind Restart:", d.Acts())
	}
	mustFlush(t, d)
	if d.Acts() != 6 {
		t.Fatal("Acts:", d.Acts())
	}
}

func TestArmCountsActs(t *testing.T) { // P2.4
	for acts := range 6 {
		for first := range 2 { // the acts begin with a Write, or with a Flush
			d := New(2)
			mustWrite(t, d, 1, 7)
			d.Arm(acts)
			for i := range acts {
				if (i+first)%2 == 0 {
					mustWrite(t, d, 0, i)
				} else {
					mustFlush(t, d)
				}
			}
			if d.Down() {
				t.Fatal("down ahead of the act that isn't done")
			}
			mustRead(t, d, 1, fill(7))
			before, waiting := d.Bytes(), d.Waiting()
			if first == 0 {
				mustBe(t, "Write", d.Write(0, fill(99)), api.ErrDown)
			} else {
				mustBe(t, "Flush", d.Flush(), api.ErrDown)
			}
			if !d.Down() || d.Acts() != acts+1 || !bytes.Equal(d.Bytes(), before) || !slices.Equal(d.Waiting(), waiting) {
				t.Fatal("the act behind", acts, "was done:", d.Down(), d.Acts(), d.Waiting())
			}
		}
	}
}

func TestArmSparesActsWithAnotherError(t *testing.T) { // P2.4, P4
	d := New(2)
	d.Arm(1)
	wrong := func() {
		t.Helper()
		mustBe(t, "Write", d.Write(-1, fill(1)), api.ErrRange)
		mustBe(t, "Write", d.Write(2, fill(1)), api.ErrRange)
		mustBe(t, "Write", d.Write(0, fill(1)[:63]), api.ErrRange)
		if d.Down() {
			t.Fatal("down by a Write that has another error")
		}
	}
	wrong()
	mustWrite(t, d, 0, 1)
	wrong()
	mustRead(t, d, 0, fill(1))
	mustBe(t, "Write", d.Write(0, fill(2)), api.ErrDown)
	if !d.Down() {
		t.Fatal("not down")
	}
}

func TestDownComesFirst(t *testing.T) { // P2.2 to P2.4, P4
	d := New(2)
	mustWrite(t, d, 1, 5)
	d.Arm(0)
	mustBe(t, "Flush", d.Flush(), api.ErrDown)
	for range 2 {
		for _, n := range append([]int{0, 1, 2, math.MaxInt}, outside...) {
			b, e := d.Read(n)
			mustBe(t, "Read", e, api.ErrDown)
			if len(b) != 0 {
				t.Fatal("bytes beside an error")
			}
			mustBe(t, "Write", d.Write(n, fill(1)), api.ErrDown)
			mustBe(t, "Write", d.Write(n, nil), api.ErrDown)
		}
		mustBe(t, "Flush", d.Flush(), api.ErrDown)
		if !d.Down() || d.Len() != 2 || d.Acts() != 1 || !bytes.Equal(d.Bytes(), make([]byte, 128)) {
			t.Fatal(d.Down(), d.Len(), d.Acts(), d.Bytes())
		}
		mustWait(t, d, 1)
		// Arm doesn't bring the power back.
		d.Arm(5)
		d.Arm(-1)
	}
}

func TestArmAnew(t *testing.T) { // P2.4
	d := New(1)
	d.Arm(2)
	mustFlush(t, d)
	d.Arm(2)
	mustFlush(t, d)
	mustFlush(t, d)
	d.Arm(3)
	mustFlush(t, d)
	d.Arm(0)
	mustBe(t, "Flush", d.Flush(), api.ErrDown)
	d.Restart(api.Fate{})
	d.Arm(0)
	d.Arm(1)
	mustFlush(t, d)
	mustBe(t, "Flush", d.Flush(), api.ErrDown)
}

func TestArmBelowNought(t *testing.T) { // P2.4
	for _, acts := range append([]int{math.MaxInt}, outside...) {
		d := New(1)
		d.Arm(0)
		d.Arm(acts)
		for i := range 200 {
			mustWrite(t, d, 0, i)
			mustFlush(t, d)
		}
		if d.Down() || d.Acts() != 400 {
			t.Fatal("Arm of", acts, d.Down(), d.Acts())
		}
	}
}

func TestRestartDisarms(t *testing.T) { // P2.5
	d := New(1)
	d.Arm(1)
	d.Restart(api.Fate{}) // of a disk that is up
	mustFlush(t, d)
	mustFlush(t, d)
	d.Arm(0)
	mustBe(t, "Flush", d.Flush(), api.ErrDown)
	d.Arm(0) // while it is down
	d.Restart(api.Fate{})
	if d.Down() {
		t.Fatal("down behind Restart")
	}
	mustFlush(t, d)
}

func TestStayBits(t *testing.T) { // P2.5
	for stay := range uint64(16) {
		d := New(4)
		for n := range 4 {
			mustWrite(t, d, 3-n, n+1)
		}
		d.Restart(api.Fate{Stay: stay, Torn: none})
		for n := range 4 {
			want := zeros()
			if stay>>n&1 == 1 {
				want = fill(n + 1)
			}
			mustRead(t, d, 3-n, want)
			mustLast(t, d, 3-n, want)
		}
		mustWait(t, d)
	}
}

func TestExampleOfTheChapter(t *testing.T) { // P2.5
	d := New(4)
	mustWrite(t, d, 1, 1)
	mustWrite(t, d, 2, 2)
	d.Restart(api.Fate{Stay: 2, Torn: none})
	mustRead(t, d, 1, zeros())
	mustRead(t, d, 2, fill(2))
}

func TestSectorThatWaitsTwice(t *testing.T) { // P2.5
	want := [][]byte{fill(9), fill(1), fill(2), fill(2)}
	for stay := range uint64(4) {
		d := Of(fill(9))
		mustWrite(t, d, 0, 1)
		mustWrite(t, d, 0, 2)
		mustWait(t, d, 0, 0)
		mustRead(t, d, 0, fill(2))
		d.Restart(api.Fate{Stay: stay, Torn: none})
		mustRead(t, d, 0, want[stay])
		mustLast(t, d, 0, want[stay])
		mustWait(t, d)
	}
}

func TestManyWritesThatWait(t *testing.T) { // P2.5: those from 63 on go by bit 63
	for _, stay := range []uint64{0, 1, 1 << 5, 1 << 62, 1 << 63, 1<<62 | 1<<63, all, all >> 1, 0xAAAAAAAAAAAAAAAA, 0x5555555555555555} {
		d := New(140)
		order := make([]int, 140)
		for i := range order {
			order[i] = 139 - i
			mustWrite(t, d, 139-i, i)
		}
		mustWait(t, d, order...)
		d.Restart(api.Fate{Stay: stay, Torn: none})
		for i := range order {
			want := zeros()
			if stay&(1<<min(i, 63)) != 0 {
				want = fill(i)
			}
			mustRead(t, d, 139-i, want)
		}
		mustWait(t, d)
	}
}

func TestTornWrite(t *testing.T) { // P2.5
	old, now := fill(9), fill(1)
	for _, stay := range []uint64{0, all} { // whether its bit is set or not
		for _, cut := range []int{math.MinInt, -1, 0, 1, 31, 63, 64, 65, math.MaxInt} {
			for _, head := range []bool{false, true} {
				at := min(max(cut, 0), 64)
				want := slices.Concat(old[:at], now[at:])
				if head {
					want = slices.Concat(now[:at], old[at:])
				}
				d := Of(slices.Concat(zeros(), old, zeros()))
				mustWrite(t, d, 0, 5)
				mustWrite(t, d, 1, 1)
				mustWrite(t, d, 2, 6)
				d.Restart(api.Fate{Stay: stay, Torn: 1, Cut: cut, Head: head})
				mustRead(t, d, 1, want)
				mustLast(t, d, 1, want)
				others := [][]byte{zeros(), zeros()}
				if stay == all {
					others = [][]byte{fill(5), fill(6)}
				}
				mustRead(t, d, 0, others[0])
				mustRead(t, d, 2, others[1])
			}
		}
	}
}

func TestTornOverWhatLastsByThen(t *testing.T) { // P2.5
	old, one, two := fill(9), fill(1), fill(2)
	cases := []struct {
		stay uint64
		torn int
		want []byte
	}{
		{0, 0, slices.Concat(one[:20], old[20:])},
		{1, 0, slices.Concat(one[:20], old[20:])},
		{0, 1, slices.Concat(two[:20], old[20:])},
		{1, 1, slices.Concat(two[:20], one[20:])},
		{2, 0, two}, {3, 0, two},
		{3, 1, slices.Concat(two[:20], one[20:])},
		{2, 1, slices.Concat(two[:20], old[20:])},
	}
	for _, c := range cases {
		d := Of(old)
		mustWrite(t, d, 0, 1)
		mustWrite(t, d, 0, 2)
		d.Restart(api.Fate{Stay: c.stay, Torn: c.torn, Cut: 20, Head: true})
		mustRead(t, d, 0, c.want)
	}
}

func TestTornNumberThatThereIsnt(t *testing.T) { // P2.5
	for _, torn := range append([]int{2, 3, 63, 64, math.MaxInt}, outside...) {
		d := New(2)
		mustWrite(t, d, 0, 1)
		mustWrite(t, d, 1, 2)
		d.Restart(api.Fate{Stay: 2, Torn: torn, Cut: 10, Head: true})
		mustRead(t, d, 0, zeros())
		mustRead(t, d, 1, fill(2))
	}
	d := Of(fill(3))
	d.Restart(api.Fate{Stay: all, Torn: 0, Cut: 10})
	mustRead(t, d, 0, fill(3))
}

func TestTornFarBehind(t *testing.T) { // P2.5: Torn is a number, not a bit
	d := New(100)
	for i := range 100 {
		mustWrite(t, d, i, i)
	}
	d.Restart(api.Fate{Torn: 80, Cut: 8, Head: true})
	for i := range 100 {
		want := zeros()
		if i == 80 {
			copy(want, fill(80)[:8])
		}
		mustRead(t, d, i, want)
	}
}

func TestRestartOfADiskThatIsUp(t *testing.T) { // P2.5
	d := New(2)
	mustWrite(t, d, 0, 1)
	mustWrite(t, d, 1, 2)
	d.Restart(api.Fate{Stay: 1, Torn: none})
	mustWait(t, d)
	mustRead(t, d, 0, fill(1))
	mustRead(t, d, 1, zeros())
	mustFlush(t, d)
	mustRead(t, d, 1, zeros())
	mustWrite(t, d, 1, 3)
	mustWait(t, d, 1)
	mustRead(t, d, 1, fill(3))
}

func TestRestartOfADiskThatIsDown(t *testing.T) { // P2.4, P2.5
	d := New(2)
	d.Arm(2)
	mustWrite(t, d, 0, 1)
	mustWrite(t, d, 1, 2)
	mustBe(t, "Write", d.Write(0, fill(3)), api.ErrDown)
	mustWait(t, d, 0, 1)
	d.Restart(api.Fate{Stay: all, Torn: none})
	if d.Down() {
		t.Fatal("still down")
	}
	mustRead(t, d, 0, fill(1)) // the act that wasn't done leaves nothing
	mustRead(t, d, 1, fill(2))
	mustWrite(t, d, 0, 4)
	mustFlush(t, d)
	mustLast(t, d, 0, fill(4))
}

func TestNothingIsLost(t *testing.T) { // P2.7
	for _, f := range []api.Fate{{}, {Stay: all}, {Torn: none}, {Stay: 5, Torn: 1, Cut: 9, Head: true}, {Torn: 2, Cut: 64}} {
		for _, off := range []bool{false, true} {
			d := New(3)
			for i := range 9 {
				mustWrite(t, d, i%3, i)
			}
			mustFlush(t, d)
			before := d.Bytes()
			if off {
				d.Arm(0)
				mustBe(t, "Write", d.Write(0, fill(50)), api.ErrDown)
			}
			d.Restart(f)
			d.Restart(f)
			if !bytes.Equal(d.Bytes(), before) || d.Len() != 3 {
				t.Fatal("Restart behind Flush changed the disk")
			}
			for n := range 3 {
				mustRead(t, d, n, fill(6+n))
			}
		}
	}
}

func TestWriteKeepsNothingItIsGiven(t *testing.T) { // P2
	d := New(2)
	b := fill(1)
	whole := bytes.Clone(b[:cap(b)][:72])
	mustBe(t, "Write", d.Write(1, b), api.OK)
	if !bytes.Equal(b[:cap(b)][:72], whole) {
		t.Fatal("Write changed what it was given")
	}
	clear(b)
	mustRead(t, d, 1, fill(1))
	mustFlush(t, d)
	copy(b, fill(7))
	mustRead(t, d, 1, fill(1))
	mustLast(t, d, 1, fill(1))
}

// spoil overwrites b, and what lies behind its length.
func spoil(b []byte) {
	for i := range b[:cap(b)] {
		b[:cap(b)][i] ^= 0xFF
	}
}

func TestAnswersAreNewMemory(t *testing.T) { // P2
	d := New(2)
	mustWrite(t, d, 0, 1)
	mustFlush(t, d)
	mustWrite(t, d, 1, 2)
	mustWrite(t, d, 0, 3)
	for n, want := range [][]byte{fill(3), fill(2)} { // sectors that wait
		b, _ := d.Read(n)
		other, _ := d.Read(n)
		spoil(b)
		mustRead(t, d, n, want)
		if !bytes.Equal(other, want) {
			t.Fatal("two answers share memory")
		}
	}
	l := d.Waiting()
	for i := range l[:cap(l)] {
		l[:cap(l)][i] = 77
	}
	mustWait(t, d, 1, 0)
	spoil(d.Bytes())
	mustLast(t, d, 0, fill(1))
	mustFlush(t, d)
	b, _ := d.Read(0) // sectors that last
	spoil(b)
	mustRead(t, d, 0, fill(3))
	before := d.Bytes()
	mustWrite(t, d, 0, 4)
	mustFlush(t, d)
	if !bytes.Equal(before, slices.Concat(fill(3), fill(2))) {
		t.Fatal("Bytes follows the disk")
	}
}

func TestDisksStandForThemselves(t *testing.T) { // P3
	a, b := New(2), New(2)
	mustWrite(t, a, 0, 1)
	a.Arm(0)
	mustBe(t, "Flush", a.Flush(), api.ErrDown)
	if b.Down() || b.Acts() != 0 || len(b.Waiting()) != 0 {
		t.Fatal(b.Down(), b.Acts(), b.Waiting())
	}
	mustRead(t, b, 0, zeros())
}

// model is a disk told by the chapter's words, without a cache: its sectors as they last, and all writes since the last flush.
type model struct {
	lasts [][]byte
	waits []struct {
		n int
		b []byte
	}
	left, acts int
	off        bool
}

func (m *model) act(wrong bool) api.Errno {
	switch {
	case m.off:
		return api.ErrDown
	case wrong:
		return api.ErrRange
	case m.left == 0:
		m.off = true
		return api.ErrDown
	}
	m.left--
	m.acts++
	return api.OK
}

func (m *model) write(n int, b []byte) api.Errno {
	e := m.act(n < 0 || n >= len(m.lasts) || len(b) != 64)
	if e == api.OK {
		m.waits = append(m.waits, struct {
			n int
			b []byte
		}{n, bytes.Clone(b)})
	}
	return e
}

func (m *model) flush() api.Errno {
	e := m.act(false)
	if e == api.OK {
		for _, w := range m.waits {
			m.lasts[w.n] = w.b
		}
		m.waits = nil
	}
	return e
}

func (m *model) restart(f api.Fate) {
	for i, w := range m.waits {
		bit := uint64(1) << 63
		if i < 63 {
			bit = 1 << i
		}
		if i == f.Torn {
			m.lasts[w.n] = le.Mix(w.b, m.lasts[w.n], f.Cut, f.Head)
		} else if f.Stay&bit != 0 {
			m.lasts[w.n] = w.b
		}
	}
	m.waits, m.off, m.left = nil, false, -1
}

func (m *model) read(n int) ([]byte, api.Errno) {
	if m.off {
		return nil, api.ErrDown
	}
	if n < 0 || n >= len(m.lasts) {
		return nil, api.ErrRange
	}
	b := m.lasts[n]
	for _, w := range m.waits {
		if w.n == n {
			b = w.b
		}
	}
	return b, api.OK
}

func mustMatch(t *testing.T, d *Disk, m *model) {
	t.Helper()
	var order []int
	for _, w := range m.waits {
		order = append(order, w.n)
	}
	if d.Len() != len(m.lasts) || d.Down() != m.off || d.Acts() != m.acts || !slices.Equal(d.Waiting(), order) || !bytes.Equal(d.Bytes(), slices.Concat(m.lasts...)) {
		t.Fatal("the disk is not the model:", d.Len(), d.Down(), m.off, d.Acts(), m.acts, d.Waiting(), order)
	}
	for n := -1; n <= len(m.lasts); n++ {
		b, e := d.Read(n)
		want, f := m.read(n)
		if e != f || !bytes.Equal(b, want) {
			t.Fatalf("Read(%d) = %v, %d, want %v, %d", n, b, e, want, f)
		}
	}
}

func TestManyScriptsAgainstTheModel(t *testing.T) { // P2.1 to P2.7
	for seed := range int64(150) {
		r := rand.New(rand.NewSource(seed))
		many := r.Intn(6)
		d, m := New(many), &model{left: -1}
		for range many {
			m.lasts = append(m.lasts, zeros())
		}
		for step := range 300 {
			switch k := r.Intn(100); {
			case k < 80:
				n, b := r.Intn(many+2)-1, fill(step)
				if r.Intn(12) == 0 {
					b = b[:r.Intn(64)]
				}
				mustBe(t, "Write", d.Write(n, b), m.write(n, b))
			case k < 83:
				mustBe(t, "Flush", d.Flush(), m.flush())
			case k < 90:
				acts := r.Intn(90) - 10
				d.Arm(acts)
				m.left = acts
			case k < 93 || m.off:
				f := api.Fate{Stay: r.Uint64(), Torn: r.Intn(80) - 3, Cut: r.Intn(80) - 8, Head: r.Intn(2) == 0}
				d.Restart(f)
				m.restart(f)
			}
			mustMatch(t, d, m)
		}
	}
}
