package wide

import (
	"math/big"
	"math/rand"

	"carrel/api"
)

// The model: numbers without an end, told by the chapter's words.

// end is 2^n.
func end(n uint) *big.Int { return new(big.Int).Lsh(big.NewInt(1), n) }

func fromU(n uint64) *big.Int { return new(big.Int).SetUint64(n) }

// from0On is a wide number from 0 on.
func from0On(a api.Wide) *big.Int {
	n := new(big.Int).Mul(fromU(a.Hi), end(64))
	return n.Add(n, fromU(a.Lo))
}

// signed is a wide number with its sign.
func signed(a api.Wide) *big.Int {
	n := from0On(a)
	if n.Cmp(end(127)) >= 0 {
		n.Sub(n, end(128))
	}
	return n
}

// wideOf is a number modulo 2^128.
func wideOf(n *big.Int) api.Wide {
	n = new(big.Int).Mod(n, end(128)) // from 0 on, whatever n's sign is
	hi, lo := new(big.Int).QuoRem(n, end(64), new(big.Int))
	return api.Wide{Hi: hi.Uint64(), Lo: lo.Uint64()}
}

// rounded0 is the rest and the quotient, rounded to 0.
func rounded0(a, b *big.Int) (*big.Int, *big.Int) {
	q := new(big.Int).Div(new(big.Int).Abs(a), new(big.Int).Abs(b))
	if a.Sign()*b.Sign() < 0 {
		q.Neg(q)
	}
	return restOf(a, b, q), q
}

// roundedDown is the rest and the quotient, rounded down. Big numbers' Div rounds down where b is above 0.
func roundedDown(a, b *big.Int) (*big.Int, *big.Int) {
	sign := big.NewInt(int64(b.Sign()))
	q := new(big.Int).Div(new(big.Int).Mul(a, sign), new(big.Int).Abs(b))
	return restOf(a, b, q), q
}

func restOf(a, b, q *big.Int) *big.Int {
	return new(big.Int).Sub(a, new(big.Int).Mul(q, b))
}

// answer is what a division answers; numbers from 0 on stand in it as signed ones of the same bits.
type answer struct {
	rest, quotient int64
	thrown         int
}

func answerOf(rest, quotient int64, thrown int) answer { return answer{rest, quotient, thrown} }

func answerOfU(rest, quotient uint64, thrown int) answer {
	return answer{int64(rest), int64(quotient), thrown}
}

func wantUDiv(a api.Wide, b uint64) answer {
	if b == 0 {
		return answer{thrown: -10}
	}
	rest, q := rounded0(from0On(a), fromU(b))
	if !q.IsUint64() {
		return answer{thrown: -11}
	}
	return answerOfU(rest.Uint64(), q.Uint64(), 0)
}

func wantSigned(a api.Wide, b int64, round func(a, b *big.Int) (*big.Int, *big.Int)) answer {
	if b == 0 {
		return answer{thrown: -10}
	}
	rest, q := round(signed(a), big.NewInt(b))
	if !q.IsInt64() {
		return answer{thrown: -11}
	}
	return answer{rest.Int64(), q.Int64(), 0}
}

func wantDiv(a, b int64) answer {
	if b == 0 {
		return answer{thrown: -10}
	}
	rest, q := roundedDown(big.NewInt(a), big.NewInt(b))
	return answer{rest.Int64(), int64(wideOf(q).Lo), 0}
}

// halves are the numbers at edges.
func halves() []uint64 {
	l := []uint64{0, 1, 2, 3, 7, 10}
	for _, at := range []int{31, 32, 33, 62, 63} {
		for less := range uint64(5) {
			l = append(l, 1<<at+2-less)
		}
	}
	for less := range uint64(4) {
		l = append(l, ^less)
	}
	return append(l, ^uint64(0)-6, ^uint64(0)-9, 1<<64-1<<31, 1<<64-1<<32, 0x0123456789ABCDEF, 0xFEDCBA9876543210)
}

func wides() []api.Wide {
	l := []api.Wide{}
	for _, hi := range halves() {
		for _, lo := range halves() {
			l = append(l, api.Wide{Hi: hi, Lo: lo})
		}
	}
	return l
}

// chance is a number of any size by chance.
func chance(r *rand.Rand) uint64 {
	n := r.Uint64() >> r.Intn(64)
	if r.Intn(2) == 0 {
		return -n
	}
	return n
}
