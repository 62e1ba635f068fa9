package wide

import (
	"math"
	"math/big"
	"math/rand"
	"testing"

	"carrel/api"
)

// The chapter's example, and the one that it tells of Div.
func TestExample(t *testing.T) {
	minus7 := Of(-7)
	for what, one := range map[string]struct{ got, want answer }{
		"FmMod": {answerOf(FmMod(minus7, 2)), answer{1, -4, 0}},
		"SmRem": {answerOf(SmRem(minus7, 2)), answer{-1, -3, 0}},
		"UDiv":  {answerOfU(UDiv(api.Wide{Hi: 1}, 1)), answer{0, 0, api.ThrowResult}},
		"Div":   {answerOf(Div(math.MinInt64, -1)), answer{0, math.MinInt64, 0}},
	} {
		if one.got != one.want {
			t.Errorf("%s: %v, not %v", what, one.got, one.want)
		}
	}
}

func wantWide(t *testing.T, what string, got, want api.Wide) {
	t.Helper()
	if got != want {
		t.Fatalf("%s: %x, not %x", what, got, want)
	}
}

// P14.1: n with its sign.
func TestOf(t *testing.T) {
	all := ^uint64(0)
	for n, want := range map[int64]api.Wide{
		0:             {},
		1:             {Lo: 1},
		-1:            {Hi: all, Lo: all},
		-2:            {Hi: all, Lo: all - 1},
		math.MaxInt64: {Lo: 1<<63 - 1},
		math.MinInt64: {Hi: all, Lo: 1 << 63},
	} {
		wantWide(t, "of", Of(n), want)
	}
	for _, n := range halves() {
		wantWide(t, "of", Of(int64(n)), wideOf(big.NewInt(int64(n))))
	}
}

// P14.1: sums and negatives modulo 2^128; the lowest number is its own negative.
func TestAddNeg(t *testing.T) {
	lowest := api.Wide{Hi: 1 << 63}
	wantWide(t, "the lowest one's negative", Neg(lowest), lowest)
	wantWide(t, "a carry", Add(api.Wide{Lo: ^uint64(0)}, Of(1)), api.Wide{Hi: 1})
	wantWide(t, "round", Add(Of(-1), Of(1)), api.Wide{})
	wantWide(t, "a negative", Neg(api.Wide{Hi: 1}), api.Wide{Hi: ^uint64(0)})
	some := wides()
	for i, a := range some {
		wantWide(t, "neg", Neg(a), wideOf(new(big.Int).Neg(from0On(a))))
		for j := i % 7; j < len(some); j += 7 {
			b := some[j]
			wantWide(t, "add", Add(a, b), wideOf(new(big.Int).Add(from0On(a), from0On(b))))
		}
	}
}

// P14.2: products, of numbers from 0 on and of signed ones.
func TestMul(t *testing.T) {
	check := func(a, b uint64) {
		t.Helper()
		wantWide(t, "umul", UMul(a, b), wideOf(new(big.Int).Mul(fromU(a), fromU(b))))
		c, d := int64(a), int64(b)
		wantWide(t, "mul", Mul(c, d), wideOf(new(big.Int).Mul(big.NewInt(c), big.NewInt(d))))
	}
	for _, a := range halves() {
		for _, b := range halves() {
			check(a, b)
		}
	}
	r := rand.New(rand.NewSource(1))
	for range 50000 {
		check(chance(r), chance(r))
	}
	wantWide(t, "the greatest", UMul(math.MaxUint64, math.MaxUint64), api.Wide{Hi: math.MaxUint64 - 1, Lo: 1})
	wantWide(t, "the lowest", Mul(math.MinInt64, math.MinInt64), api.Wide{Hi: 1 << 62})
	wantWide(t, "nought", Mul(0, -5), api.Wide{})
}

// divisions holds every division of one number by another against the model, and against P14.6.
func divisions(t *testing.T, a api.Wide, b uint64) {
	t.Helper()
	n, c := int64(b), int64(a.Lo)
	for what, one := range map[string]struct{ got, want answer }{
		"UDiv":  {answerOfU(UDiv(a, b)), wantUDiv(a, b)},
		"SmRem": {answerOf(SmRem(a, n)), wantSigned(a, n, rounded0)},
		"FmMod": {answerOf(FmMod(a, n)), wantSigned(a, n, roundedDown)},
		"Div":   {answerOf(Div(c, n)), wantDiv(c, n)},
	} {
		if one.got != one.want {
			t.Fatalf("%s of %x by %x: %v, not %v", what, a, b, one.got, one.want)
		}
	}
	if rest, q, thrown := UDiv(a, b); thrown == 0 {
		wantWide(t, "UDiv back", Add(UMul(q, b), api.Wide{Lo: rest}), a)
	}
	if rest, q, thrown := SmRem(a, n); thrown == 0 {
		wantWide(t, "SmRem back", Add(Mul(q, n), Of(rest)), a)
	}
	if rest, q, thrown := FmMod(a, n); thrown == 0 {
		wantWide(t, "FmMod back", Add(Mul(q, n), Of(rest)), a)
	}
	if rest, q, _ := Div(c, n); n != 0 && q*n+rest != c {
		t.Fatal("Div back", c, n, rest, q)
	}
}

// P14.3 to P14.6: numbers at edges, 0 as a divisor among them.
func TestEdges(t *testing.T) {
	for _, a := range wides() {
		for _, b := range halves() {
			divisions(t, a, b)
		}
	}
}

// P14.3 to P14.6: what lies about the greatest and the lowest quotient that may be, with each kind of rest.
func TestAtTheBounds(t *testing.T) {
	bounds := []*big.Int{new(big.Int), end(63), end(64), new(big.Int).Neg(end(63)), new(big.Int).Neg(end(64))}
	for _, b := range halves() {
		for _, divisor := range []*big.Int{fromU(b), big.NewInt(int64(b))} {
			for _, bound := range bounds {
				edge := new(big.Int).Mul(bound, divisor)
				for many := int64(-3); many <= 3; many++ {
					for more := int64(-2); more <= 2; more++ {
						a := new(big.Int).Mul(big.NewInt(many), divisor)
						a.Add(a, edge).Add(a, big.NewInt(more))
						divisions(t, wideOf(a), b)
					}
				}
			}
		}
	}
}

// P14.3 to P14.6: numbers by chance, many of which have a quotient.
func TestByChance(t *testing.T) {
	r := rand.New(rand.NewSource(2))
	for range 60000 {
		b := chance(r)
		divisions(t, api.Wide{Hi: chance(r), Lo: chance(r)}, b)
		divisions(t, Of(int64(chance(r))), b)
		divisions(t, Add(Mul(int64(chance(r)), int64(b)), Of(int64(chance(r)))), b)
	}
}

// P14.3, P14.4: what throws, by number, and both numbers 0.
func TestThrows(t *testing.T) {
	lowest, greatest := api.Wide{Hi: 1 << 63}, api.Wide{Hi: 1<<63 - 1, Lo: math.MaxUint64}
	half, round := api.Wide{Lo: 1 << 63}, api.Wide{Hi: math.MaxUint64, Lo: 1}
	for what, one := range map[string]struct{ got, want answer }{
		"UDiv by 0":                 {answerOfU(UDiv(greatest, 0)), answer{0, 0, -10}},
		"SmRem by 0":                {answerOf(SmRem(lowest, 0)), answer{0, 0, -10}},
		"FmMod by 0":                {answerOf(FmMod(lowest, 0)), answer{0, 0, -10}},
		"Div by 0":                  {answerOf(Div(math.MinInt64, 0)), answer{0, 0, -10}},
		"0 by 0":                    {answerOf(Div(0, 0)), answer{0, 0, -10}},
		"UDiv of all bits":          {answerOfU(UDiv(Of(-1), math.MaxUint64)), answer{0, 0, -11}},
		"UDiv just below":           {answerOfU(UDiv(api.Wide{Hi: math.MaxUint64 - 1, Lo: math.MaxUint64}, math.MaxUint64)), answer{-2, -1, 0}},
		"SmRem of the lowest":       {answerOf(SmRem(lowest, -1)), answer{0, 0, -11}},
		"FmMod of the lowest":       {answerOf(FmMod(lowest, -1)), answer{0, 0, -11}},
		"SmRem, a half":             {answerOf(SmRem(half, 1)), answer{0, 0, -11}},
		"SmRem, a half and its end": {answerOf(SmRem(half, -1)), answer{0, math.MinInt64, 0}},
		"FmMod, a half and its end": {answerOf(FmMod(half, -1)), answer{0, math.MinInt64, 0}},
		"FmMod, a half, below 0":    {answerOf(FmMod(Of(math.MinInt64), -1)), answer{0, 0, -11}},
		"SmRem, rounded into reach": {answerOf(SmRem(Add(Add(half, half), Of(1)), -2)), answer{1, math.MinInt64, 0}},
		"FmMod, rounded out of it":  {answerOf(FmMod(Add(Add(half, half), Of(1)), -2)), answer{0, 0, -11}},
		"SmRem, whose size is all":  {answerOf(SmRem(Add(Add(round, round), Of(-1)), 2)), answer{0, 0, -11}},
		"FmMod, whose size is all":  {answerOf(FmMod(Add(Add(round, round), Of(-1)), 2)), answer{0, 0, -11}},
	} {
		if one.got != one.want {
			t.Errorf("%s: %v, not %v", what, one.got, one.want)
		}
	}
}
