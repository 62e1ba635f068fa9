package digits

import (
	"math"
	"math/big"
	"math/rand"
	"strings"
	"testing"
)

// someBases are bases of each kind, and numbers that count as 10.
var someBases = []int64{2, 3, 7, 8, 9, 10, 11, 16, 17, 35, 36,
	0, 1, -1, -2, -16, 37, 38, 64, 258, 266, 1<<32 + 2, 1<<32 + 16, math.MinInt64, math.MaxInt64}

// someNumbers stand at the edges of what a cell holds.
var someNumbers = []int64{0, 1, -1, 2, -2, 9, 10, 11, -10, 15, 16, 35, 36, -36, 255, -255, 256,
	math.MaxInt32, math.MinInt32, 1 << 32, 1 << 62, -1 << 62,
	math.MaxInt64 - 1, math.MaxInt64, math.MinInt64, math.MinInt64 + 1}

// none asks that a word is no number in a base.
func none(t *testing.T, s string, base int64) {
	t.Helper()
	if n, is := Number(s, base); is || n != 0 {
		t.Errorf("Number(%q, %d) is %d, %t; wanted none", s, base, n, is)
	}
}

// one asks that a word is the number n in a base.
func one(t *testing.T, s string, base, n int64) {
	t.Helper()
	if m, is := Number(s, base); !is || m != n {
		t.Errorf("Number(%q, %d) is %d, %t; wanted %d", s, base, m, is, n)
	}
}

// asTheModel asks that Number answers what the model does.
func asTheModel(t *testing.T, s string, base int64) {
	t.Helper()
	n, is := Number(s, base)
	if m, was := wanted(s, base); n != m || is != was {
		t.Errorf("Number(%q, %d) is %d, %t; wanted %d, %t", s, base, n, is, m, was)
	}
}

func TestExample(t *testing.T) {
	one(t, "$-1F", 10, -31)
	none(t, "-$1F", 10)
	none(t, "12", 2)
	if s := Show(-255, 16); s != "-FF" {
		t.Error(s)
	}
}

// TestQuotedByte holds P15.1's first form against every byte.
func TestQuotedByte(t *testing.T) {
	for b := range 256 {
		s := "'" + string([]byte{byte(b)}) + "'"
		one(t, s, 10, int64(b))
		one(t, s, -7, int64(b))
	}
	one(t, "'''", 10, '\'')
	for _, s := range []string{"'", "''", "''''", "'a", "a'", "'ab'", "'a'b", "b'a'", "'é'", "-'a'", "#'a'", "'-1'", "'1", "1'", "'1''"} {
		none(t, s, 36)
	}
}

// TestSignsAhead holds P15.1's signs: one base sign, then one minus.
func TestSignsAhead(t *testing.T) {
	for _, base := range someBases {
		one(t, "#10", base, 10)
		one(t, "$10", base, 16)
		one(t, "%10", base, 2)
		one(t, "#-99", base, -99)
		one(t, "$-fF", base, -255)
		one(t, "%-101", base, -5)
		one(t, "-10", base, -counted(base))
		one(t, "10", base, counted(base))
		one(t, "-0", base, 0)
		one(t, "-00", base, 0)
		for _, s := range []string{"", "#", "$", "%", "-", "#-", "$-", "%-", "--", "--1", "#--1", "-#1", "-%1", "##1", "#$1", "$#1", "%%1",
			"+1", "#+1", "1-", "1-1", "1#", "#1#", "1$", "%12", "%2", "#1A", "#A", "$G", "$1G", "$-g", "&1", "0x1", "1.", "1,0", "1_0",
			" 1", "1 ", "1 1", "\t1", "\x001", "1\x00", "1\n", "'1", ".", "@", "[", "`", "{", "/", ":"} {
			if s == "0x1" && counted(base) > 33 {
				continue // x is a digit there
			}
			none(t, s, base)
		}
	}
}

// TestEachDigit asks each byte and many a rune, alone and behind a digit, in
// every base.
func TestEachDigit(t *testing.T) {
	for base := int64(-3); base <= 40; base++ {
		for b := range 256 {
			c := string([]byte{byte(b)})
			for _, s := range []string{c, "1" + c, c + "1", "1" + c + "1", "-" + c, "$" + c, "#" + c, "%" + c} {
				asTheModel(t, s, base)
			}
		}
		// Runes whose lower bytes, or whose other case, are those of digits.
		for _, r := range []rune{0x130, 0x131, 0x141, 0x161, 0x17F, 0x212A, 0x230, 0x660, 0x966, 0xFF11, 0xFF21, 0x10031, 0x10061, 0xFFFD} {
			none(t, string(r), base)
			none(t, "1"+string(r), base)
			none(t, string(r)+"1", base)
			none(t, "'"+string(r), base)
		}
		for _, s := range []string{"\xff", "1\xff", "\xff1", "1\xc3", "\xed\xa0\x80", "1\x80\x80"} {
			none(t, s, base)
		}
	}
}

// TestLettersOfBothSizes holds that a small letter counts as the large one.
func TestLettersOfBothSizes(t *testing.T) {
	for i, c := range allDigits[10:] {
		d := int64(i) + 10
		for _, s := range []string{string(c), strings.ToLower(string(c))} {
			one(t, s, 36, d)
			one(t, s+s, 36, 37*d)
			if d < 36 {
				one(t, s, d+1, d)
			}
			none(t, s, d)
			none(t, "1"+s, d)
		}
	}
}

// TestWrapsRound holds that a number is taken modulo 2^64, with its sign.
func TestWrapsRound(t *testing.T) {
	one(t, "9223372036854775807", 10, math.MaxInt64)
	one(t, "9223372036854775808", 10, math.MinInt64)
	one(t, "-9223372036854775808", 10, math.MinInt64)
	one(t, "-9223372036854775809", 10, math.MaxInt64)
	one(t, "18446744073709551615", 10, -1)
	one(t, "-18446744073709551615", 10, 1)
	one(t, "18446744073709551616", 10, 0)
	one(t, "-18446744073709551617", 10, -1)
	one(t, "$FFFFFFFFFFFFFFFF", 10, -1)
	one(t, "$10000000000000000F", 10, 15)
	one(t, "%1"+strings.Repeat("0", 63), 10, math.MinInt64)
	one(t, "%1"+strings.Repeat("0", 64)+"", 10, 0)
	one(t, strings.Repeat("0", 1000)+"7", 8, 7)
	for _, base := range someBases {
		for _, long := range []int{12, 13, 16, 20, 63, 64, 65, 200, 5000} {
			asTheModel(t, strings.Repeat("1", long), base)
			asTheModel(t, "-"+strings.Repeat("10", long), base)
			asTheModel(t, "$"+strings.Repeat("f", long), base)
			asTheModel(t, "#-"+strings.Repeat("9", long), base)
			asTheModel(t, strings.Repeat("1", long)+"?", base)
		}
	}
}

// TestShow holds P15.2 and P15.4 at the edges.
func TestShow(t *testing.T) {
	for _, base := range someBases {
		for _, n := range someNumbers {
			thereAndBack(t, n, base)
		}
	}
	for base := int64(2); base <= 36; base++ {
		for n := int64(-1300); n <= 1300; n++ {
			thereAndBack(t, n, base)
		}
		// Both sides of each power of the base.
		for p := new(big.Int).SetInt64(1); p.IsInt64(); p.Mul(p, big.NewInt(base)) {
			for _, by := range []int64{-1, 0, 1} {
				thereAndBack(t, p.Int64()+by, base)
				thereAndBack(t, -p.Int64()+by, base)
			}
		}
	}
	for _, c := range []struct {
		n, base int64
		s       string
	}{{0, 10, "0"}, {0, 2, "0"}, {0, 99, "0"}, {-1, 36, "-1"}, {35, 36, "Z"}, {-46655, 36, "-ZZZ"}, {10, 10, "10"}, {10, 11, "A"},
		{math.MinInt64, 16, "-8000000000000000"}, {math.MinInt64, 10, "-9223372036854775808"},
		{math.MinInt64, 2, "-1" + strings.Repeat("0", 63)}, {255, 1, "255"}, {255, 37, "255"}, {255, -16, "255"}} {
		if s := Show(c.n, c.base); s != c.s {
			t.Errorf("Show(%d, %d) is %q, wanted %q", c.n, c.base, s, c.s)
		}
	}
	if s := ShowU(math.MaxUint64, 2); s != strings.Repeat("1", 64) {
		t.Error(s)
	}
	if s := ShowU(math.MaxUint64, 36); s != "3W5E11264SGSF" {
		t.Error(s)
	}
}

// thereAndBack asks that n is shown as the model shows it, as a signed number
// and as one from 0 on, and that Number tells n again.
func thereAndBack(t *testing.T, n, base int64) {
	t.Helper()
	s := Show(n, base)
	if m := shown(big.NewInt(n), base); s != m {
		t.Errorf("Show(%d, %d) is %q, wanted %q", n, base, s, m)
	}
	u := ShowU(uint64(n), base)
	if m := shown(new(big.Int).SetUint64(uint64(n)), base); u != m {
		t.Errorf("ShowU(%d, %d) is %q, wanted %q", uint64(n), base, u, m)
	}
	one(t, s, base, n)
	one(t, strings.ToLower(s), base, n)
	one(t, u, base, n) // modulo 2^64 they are the same
}

func TestBase(t *testing.T) {
	for n := int64(-300); n <= 300; n++ {
		if b := Base(n); b != counted(n) {
			t.Errorf("Base(%d) is %d", n, b)
		}
	}
	for _, n := range someBases {
		if b := Base(n); b != counted(n) {
			t.Errorf("Base(%d) is %d", n, b)
		}
	}
}

// TestByChance asks words made of signs, digits and others, and numbers of any
// size.
func TestByChance(t *testing.T) {
	r := rand.New(rand.NewSource(15))
	parts := []string{"#", "$", "%", "-", "'", "0", "1", "7", "9", "a", "F", "g", "Z", "z", ".", "+", " ", "é", "\xff", "\x00", "10", "ff"}
	for range 200000 {
		s := ""
		for range r.Intn(7) {
			s += parts[r.Intn(len(parts))]
		}
		asTheModel(t, s, int64(r.Intn(44)-3))
	}
	for range 100000 {
		thereAndBack(t, int64(r.Uint64()>>r.Intn(64)), int64(r.Intn(44)-3))
	}
}
