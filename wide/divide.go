package wide

import (
	"math/bits"

	"carrel/api"
)

const signAt = 63 // the bit of a half that tells a sign

func below0(n int64) bool { return n>>signAt != 0 }

func wideBelow0(a api.Wide) bool { return a.Hi>>signAt != 0 }

// turned tells a or its negative. It keeps the lowest number as it stands, which is its size, taken from 0 on.
func turned(a api.Wide, minus bool) api.Wide {
	if minus {
		return Neg(a)
	}
	return a
}

func wideSize(a api.Wide) api.Wide { return turned(a, wideBelow0(a)) }

func size(n int64) uint64 { return wideSize(Of(n)).Lo }

// divide tells the rest and the quotient of numbers from 0 on.
func divide(a api.Wide, b uint64) (rest, quotient uint64) {
	demand(b != 0, api.ThrowDiv)
	demand(a.Hi < b, api.ThrowResult) // else the quotient has more than one half
	quotient, rest = bits.Div64(a.Hi, a.Lo, b)
	return rest, quotient
}

// towards0 tells the rest, with a's sign, and the quotient, rounded to 0. The rest is nearer to 0 than b, so that it has just one half.
func towards0(a api.Wide, b int64) (int64, api.Wide) {
	rest, quotient := divide(wideSize(a), size(b))
	minus := wideBelow0(a)
	return int64(turned(api.Wide{Lo: rest}, minus).Lo), turned(api.Wide{Lo: quotient}, minus != below0(b))
}

// down tells the rest, with b's sign, and the quotient, rounded down. The quotient stays wide, since one less than a half's lowest number would wrap round.
func down(a api.Wide, b int64) (int64, api.Wide) {
	rest, quotient := towards0(a, b)
	if rest != 0 && below0(rest^b) {
		return rest + b, Add(quotient, Of(-1))
	}
	return rest, quotient
}

// narrow tells a number that is from -2^63 to 2^63 - 1.
func narrow(a api.Wide) int64 {
	n := int64(a.Lo)
	demand(Of(n) == a, api.ThrowResult)
	return n
}

func demand(holds bool, thrown int) {
	if !holds {
		panic(thrown)
	}
}

// caught tells a rest and a quotient, or what was thrown on the way.
func caught[T int64 | uint64](work func() (T, T)) (rest, quotient T, thrown int) {
	defer func() {
		if what := recover(); what != nil {
			rest, quotient, thrown = 0, 0, what.(int)
		}
	}()
	rest, quotient = work()
	return rest, quotient, 0
}
