package digits

import (
	"math/big"
	"regexp"
	"strings"
)

// The model: numbers without an end, told by the chapter's words.

// aWord is a word that may be a number, as bytes: its sign ahead, its minus,
// its digits.
var aWord = regexp.MustCompile(`^([#$%]?)(-?)([0-9A-Za-z]+)$`)

const allDigits = "0123456789ABCDEFGHIJKLMNOPQRSTUVWXYZ"

// counted is the base that n counts as.
func counted(n int64) int64 {
	for b := int64(2); b <= 36; b++ {
		if b == n {
			return b
		}
	}
	return 10
}

// wanted is what Number must answer.
func wanted(s string, base int64) (int64, bool) {
	if len(s) == 3 && strings.HasPrefix(s, "'") && strings.HasSuffix(s, "'") {
		return int64(s[1]), true
	}
	m := aWord.FindStringSubmatch(s)
	if m == nil {
		return 0, false
	}
	base = counted(base)
	switch m[1] {
	case "#":
		base = 10
	case "$":
		base = 16
	case "%":
		base = 2
	}
	n := new(big.Int)
	for _, c := range []byte(strings.ToUpper(m[3])) {
		d := int64(strings.IndexByte(allDigits, c))
		if d >= base {
			return 0, false
		}
		n.Mul(n, big.NewInt(base)).Add(n, big.NewInt(d))
	}
	if m[2] == "-" {
		n.Neg(n)
	}
	n.Mod(n, new(big.Int).Lsh(big.NewInt(1), 64)) // from 0 on, whatever n's sign is
	return int64(n.Uint64()), true
}

// shown is what Show and ShowU must answer.
func shown(n *big.Int, base int64) string {
	return strings.ToUpper(n.Text(int(counted(base))))
}
