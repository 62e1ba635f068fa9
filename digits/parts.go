package digits

const (
	lowestBase  = 2
	highestBase = 36
	usualBase   = 10

	// mostDigits is how many digits the greatest number has in the lowest base.
	mostDigits = 64

	quote     = '\''
	minusSign = '-'
)

// quoted tells the byte that stands between two quotes, if s is that.
func quoted(s string) (int64, bool) {
	if len(s) != 3 || s[0] != quote || s[2] != quote {
		return 0, false
	}
	return int64(s[1]), true
}

// parts cuts off the signs that stand ahead of a word's digits: it tells the
// base they are of, whether there is a minus, and what is left.
func parts(s string, base int64) (int64, bool, string) {
	bases := map[byte]int64{'#': 10, '$': 16, '%': 2}
	cut := func(wanted func(sign byte) bool) bool {
		if s == "" || !wanted(s[0]) {
			return false
		}
		s = s[1:]
		return true
	}
	cut(func(sign byte) bool {
		other, is := bases[sign]
		if is {
			base = other
		}
		return is
	})
	minus := cut(func(sign byte) bool { return sign == minusSign })
	return base, minus, s
}

// sum tells the number that digits make, modulo 2^64, and true; false, if
// there are none or if something else stands among them.
func sum(s string, base uint64) (uint64, bool) {
	n := uint64(0)
	for _, r := range s {
		d, is := value(r)
		if !is || d >= base {
			return 0, false
		}
		n = n*base + d
	}
	return n, s != ""
}

// value tells what a digit counts, if it is one in any base.
func value(r rune) (uint64, bool) {
	switch {
	case r >= '0' && r <= '9':
		return uint64(r - '0'), true
	case r >= 'A' && r <= 'Z':
		return uint64(r-'A') + 10, true
	case r >= 'a' && r <= 'z':
		return uint64(r-'a') + 10, true
	}
	return 0, false
}

// letter tells the digit that counts d, which is below the highest base.
func letter(d uint64) byte {
	if d < 10 {
		return '0' + byte(d)
	}
	return 'A' + byte(d-10)
}
