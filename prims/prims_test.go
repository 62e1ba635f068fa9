package prims

import (
	"math"
	"math/rand"
	"strings"
	"testing"

	"carrel/api"
)

// strange are numbers that no primitive has, those that are one's in their
// lower bits, or times 8, among them.
var strange = []int{0, -1, -2, -8, -13, -141, 142, 143, 255, 256, 269, 1000, 1<<16 + 13, 1<<31 - 1, 1 << 31, 1<<32 + 1, 1<<32 + 13,
	1 << 61, 1<<61 + 1, 1<<61 + 13, -1<<61 + 13, 1 << 62, 1<<63 - 1, math.MinInt, math.MinInt + 1, math.MinInt + 13}

// asTheModel asks that Find answers what the model does.
func asTheModel(t *testing.T, list []api.Prim, name string) {
	t.Helper()
	if n, m := Find(name), wanted(list, name); n != m {
		t.Errorf("Find(%q) is %d, wanted %d", name, n, m)
	}
}

func TestExample(t *testing.T) {
	if Find("dup") != 13 || Find("(lit)") != 0 || Xt(13) != 104 {
		t.Error(Find("dup"), Find("(lit)"), Xt(13))
	}
}

func TestOf(t *testing.T) { // P16.1
	for i, want := range model(t) {
		for range 2 {
			if p, is := Of(i + 1); !is || p != want {
				t.Error("Of", i+1, "is", p, is, "wanted", want)
			}
		}
	}
	for _, n := range strange {
		if p, is := Of(n); is || p != (api.Prim{}) {
			t.Error("Of", n, "is", p, is)
		}
	}
}

// TestNamedNumbers holds the numbers that package api names against the table.
func TestNamedNumbers(t *testing.T) { // P16.1
	for n, name := range map[int]string{
		api.PrimExit: "EXIT", api.PrimLit: "(lit)", api.PrimBranch: "(branch)", api.PrimZero: "(0branch)", api.PrimDo: "(do)",
		api.PrimLoop: "(loop)", api.PrimPlus: "(+loop)", api.PrimText: `(s")`, api.PrimSay: `(.")`, api.PrimQuote: `(abort")`,
		api.PrimDoes: "(does)", api.PrimMany: "REPOSITION-FILE",
	} {
		if p, is := Of(n); !is || p.Name != name {
			t.Error("Of", n, "is", p, is, "wanted", name)
		}
	}
}

func TestAll(t *testing.T) { // P16.1
	list := model(t)
	all := All()
	for range 2 {
		last := 0
		for n, p := range all {
			if n != last+1 || n > len(list) || p != list[n-1] {
				t.Fatal("behind", last, "stands", n, p)
			}
			last = n
		}
		if last != len(list) {
			t.Fatal("the last one is", last)
		}
	}
}

func TestAllIsLeft(t *testing.T) { // P16.1
	list := model(t)
	all := All()
	for many := 1; many <= len(list); many++ {
		told := 0
		all(func(n int, p api.Prim) bool { // a call behind false would be told
			told++
			if n != told || p != list[n-1] {
				t.Fatal(n, p)
			}
			return told < many
		})
		if told != many {
			t.Fatal("left behind", many, "but told", told)
		}
	}
}

func TestAllWithinItself(t *testing.T) { // P16.1
	all := All()
	told := 0
	for n := range all {
		for m := range all {
			if m == n {
				told++
				break
			}
		}
	}
	if told != 141 {
		t.Error(told)
	}
}

// TestFindBack holds that a name that Of tells is found as it stands, in small
// letters, in large ones, and mixed: but not those from 2 to 11.
func TestFindBack(t *testing.T) { // P16.2, P16.5
	for i, p := range model(t) {
		want := i + 1
		if want >= 2 && want <= 11 {
			want = 0
		}
		mixed := []byte(p.Name)
		for at := 1; at < len(mixed); at += 2 {
			mixed[at] = strings.ToLower(p.Name)[at]
		}
		told, _ := Of(i + 1)
		for _, name := range []string{p.Name, told.Name, strings.ToLower(p.Name), strings.ToUpper(p.Name), string(mixed)} {
			if n := Find(name); n != want {
				t.Errorf("Find(%q) is %d, wanted %d", name, n, want)
			}
		}
	}
}

// TestFindOfNamesThatArent asks names that are nearly a primitive's.
func TestFindOfNamesThatArent(t *testing.T) { // P16.2
	list := model(t)
	none := []string{"", " ", "\x00", "é", "\xff", "(LIT)", "(Lit)", `(S")`, `(.")`, `(ABORT")`, "(DOES)", "(+Loop)", "DUP DROP", "DU", "DUPP", "UP",
		" DUP", "DUP ", "DUP\n", "\tdup", "dup\x00", "{", "}", "|", "`", "{char]", "[char}", "r`", "c`", "\x01", "a", "z", "0", "13", "104",
		"EX\u0131T", "\u0130", "\u0131", "\u017fwap", "\u017f\"", "mar\u212a", "\uff29", "BL\u00a0", "ＤＵＰ", "ÀBS", "dup\xcc\x81", strings.Repeat("dup", 100000)}
	for _, name := range none {
		if n := Find(name); n != 0 {
			t.Errorf("Find(%q) is %d", name, n)
		}
	}
	for _, p := range list {
		asTheModel(t, list, p.Name+p.Name)
		asTheModel(t, list, p.Name+"\x00")
		asTheModel(t, list, p.Name[1:])
		asTheModel(t, list, p.Name[:len(p.Name)-1])
		for at := range len(p.Name) {
			for bit := range 8 {
				b := []byte(p.Name)
				b[at] ^= 1 << bit
				asTheModel(t, list, string(b))
			}
		}
	}
}

// TestFindOfShortNames asks each name of one byte and of two.
func TestFindOfShortNames(t *testing.T) { // P16.2
	list := model(t)
	for b := range 256 {
		asTheModel(t, list, string([]byte{byte(b)}))
	}
	for b := range 128 {
		for c := range 128 {
			asTheModel(t, list, string([]byte{byte(b), byte(c)}))
		}
	}
}

func TestLarge(t *testing.T) { // P16.3
	small, large := "abcdefghijklmnopqrstuvwxyz", "ABCDEFGHIJKLMNOPQRSTUVWXYZ"
	every, wantEvery := []byte{}, []byte{}
	for b := range 256 {
		want := byte(b)
		if at := strings.IndexByte(small, byte(b)); at >= 0 {
			want = large[at]
		}
		every, wantEvery = append(every, byte(b)), append(wantEvery, want)
		if s := Large(string([]byte{byte(b)})); s != string([]byte{want}) {
			t.Errorf("Large of byte %d is %q", b, s)
		}
	}
	if s := Large(string(every)); s != string(wantEvery) {
		t.Errorf("Large of all bytes is %q", s)
	}
	for _, c := range [][2]string{{"", ""}, {"dup", "DUP"}, {"Dup", "DUP"}, {"(s\")", "(S\")"}, {"a\x00b", "A\x00B"}, {" a b ", " A B "},
		{"éa", "éA"}, {"ßıſ\u212aµ", "ßıſ\u212aµ"}, {"\xffa\xc3", "\xffA\xc3"}, {"@[`{", "@[`{"}, {"ａｚ", "ａｚ"},
		{strings.Repeat("xY", 50000), strings.Repeat("XY", 50000)}} {
		if s := Large(c[0]); s != c[1] {
			t.Errorf("Large(%.20q) is %.20q", c[0], s)
		}
	}
}

func TestXtAndNumber(t *testing.T) { // P16.4
	for n := -300; n <= 300; n++ {
		want := int64(0)
		if n >= 1 && n <= 141 {
			want = int64(8 * n)
		}
		if xt := Xt(n); xt != want {
			t.Error("Xt", n, "is", xt)
		}
	}
	for _, n := range strange {
		if xt := Xt(n); xt != 0 {
			t.Error("Xt", n, "is", xt)
		}
	}
	for xt := int64(-3000); xt <= 3000; xt++ {
		want := 0
		for n := 1; n <= 141; n++ {
			if xt == int64(8*n) {
				want = n
			}
		}
		if n := Number(xt); n != want {
			t.Error("Number", xt, "is", n)
		}
	}
	for _, xt := range []int64{1536, 1552, 5632, 6144, 8192, 1<<32 + 8, 1<<32 + 104, 1<<35 + 104, -1<<32 + 104, 1<<62 + 104, 1<<63 - 8, 1<<63 - 1,
		math.MinInt64, math.MinInt64 + 8, math.MinInt64 + 104} {
		if n := Number(xt); n != 0 {
			t.Error("Number", xt, "is", n)
		}
	}
}

// TestByChance asks names put together of primitives' pieces.
func TestByChance(t *testing.T) { // P16.2
	list := model(t)
	r := rand.New(rand.NewSource(16))
	for range 20000 {
		p, q := list[r.Intn(len(list))].Name, list[r.Intn(len(list))].Name
		name := []byte(p[:r.Intn(len(p)+1)] + q[r.Intn(len(q)+1):])
		for at := range name {
			if r.Intn(3) == 0 {
				name[at] = strings.ToLower(string(name))[at]
			}
		}
		asTheModel(t, list, string(name))
	}
}
