package conv_test

import (
	"math"
	"math/big"
	"math/rand"
	"slices"
	"testing"

	"ecdysis/api"
	"ecdysis/conv"
	"ecdysis/lex"
	"ecdysis/scalar"
)

// The whole types, by what numbers they have.
var (
	short     = []int{api.TyInt32, api.TySint32, api.TySfixed32}
	long      = []int{api.TyInt64, api.TySint64, api.TySfixed64}
	shortFrom = []int{api.TyUint32, api.TyFixed32} // from 0 on
	longFrom  = []int{api.TyUint64, api.TyFixed64}
	whole     = slices.Concat(short, long, shortFrom, longFrom)
)

// known is numbers, worked out by hand: with their digits, as digits with or without a minus, as the bits of a value, and the types that have them.
var known = []struct {
	digits string
	n      uint64
	neg    bool
	bits   uint64
	types  []int
}{
	{"0", 0, false, 0, whole},
	{"1", 1, false, 1, whole},
	{"2", 2, false, 2, whole},
	{"2147483646", 1<<31 - 2, false, 1<<31 - 2, whole},
	{"2147483647", 1<<31 - 1, false, 1<<31 - 1, whole},
	{"2147483648", 1 << 31, false, 1 << 31, slices.Concat(long, shortFrom, longFrom)},
	{"2147483649", 1<<31 + 1, false, 1<<31 + 1, slices.Concat(long, shortFrom, longFrom)},
	{"4294967294", 1<<32 - 2, false, 1<<32 - 2, slices.Concat(long, shortFrom, longFrom)},
	{"4294967295", 1<<32 - 1, false, 1<<32 - 1, slices.Concat(long, shortFrom, longFrom)},
	{"4294967296", 1 << 32, false, 1 << 32, slices.Concat(long, longFrom)},
	{"4294967297", 1<<32 + 1, false, 1<<32 + 1, slices.Concat(long, longFrom)},
	{"9223372036854775806", 1<<63 - 2, false, 1<<63 - 2, slices.Concat(long, longFrom)},
	{"9223372036854775807", 1<<63 - 1, false, 1<<63 - 1, slices.Concat(long, longFrom)},
	{"9223372036854775808", 1 << 63, false, 1 << 63, longFrom},
	{"9223372036854775809", 1<<63 + 1, false, 1<<63 + 1, longFrom},
	{"18446744071562067967", 1<<64 - 1<<31 - 1, false, 1<<64 - 1<<31 - 1, longFrom},
	{"18446744071562067968", 1<<64 - 1<<31, false, 1<<64 - 1<<31, longFrom},
	{"18446744073709551614", 1<<64 - 2, false, 1<<64 - 2, longFrom},
	{"18446744073709551615", 1<<64 - 1, false, 1<<64 - 1, longFrom},
	{"-1", 1, true, 1<<64 - 1, slices.Concat(short, long)},
	{"-2", 2, true, 1<<64 - 2, slices.Concat(short, long)},
	{"-2147483647", 1<<31 - 1, true, 1<<64 - 1<<31 + 1, slices.Concat(short, long)},
	{"-2147483648", 1 << 31, true, 1<<64 - 1<<31, slices.Concat(short, long)},
	{"-2147483649", 1<<31 + 1, true, 1<<64 - 1<<31 - 1, long},
	{"-4294967295", 1<<32 - 1, true, 1<<64 - 1<<32 + 1, long},
	{"-4294967296", 1 << 32, true, 1<<64 - 1<<32, long},
	{"-9223372036854775807", 1<<63 - 1, true, 1<<63 + 1, long},
	{"-9223372036854775808", 1 << 63, true, 1 << 63, long},
}

// none is what is no type: next to the types, far from them, and what has a type's number as its lowest bits.
func none() []int {
	l := []int{0, -1, -2, 16, 17, 255, 256, math.MinInt, math.MaxInt}
	for shift := 4; shift < 63; shift++ {
		for ty := range 16 {
			l = append(l, 1<<shift+ty, -1<<shift+ty, math.MinInt+ty, math.MaxInt-ty)
		}
	}
	return slices.DeleteFunc(l, func(ty int) bool { return 1 <= ty && ty <= 15 })
}

// numbers is the bits of the known ones, those near to 0, those about every power of two, above 0 and below it, and some of all kinds.
func numbers() []uint64 {
	var l []uint64
	for _, k := range known {
		l = append(l, k.bits)
	}
	for n := range uint64(200) {
		l = append(l, n, -n)
	}
	for shift := range 64 {
		for d := range uint64(7) {
			n := uint64(1)<<shift + d - 3
			l = append(l, n, -n, 1<<63+n, 1<<32+n)
		}
	}
	draw := rand.New(rand.NewSource(13))
	for range 1000 {
		l = append(l, draw.Uint64()>>draw.Intn(64), -(draw.Uint64() >> draw.Intn(64)))
	}
	return l
}

// power is a power of two.
func power(of uint) *big.Int {
	return new(big.Int).Lsh(big.NewInt(1), of)
}

// ends is the least number of the whole type and the one above its greatest, without an end to numbers; nil of other types.
func ends(ty int) (*big.Int, *big.Int) {
	switch ty {
	case 1, 5, 10:
		return new(big.Int).Neg(power(31)), power(31)
	case 2, 6, 11:
		return new(big.Int).Neg(power(63)), power(63)
	case 3, 8:
		return new(big.Int), power(32)
	case 4, 9:
		return new(big.Int), power(64)
	}
	return nil, nil
}

// within tells whether the number is one of the type.
func within(ty int, number *big.Int) bool {
	least, above := ends(ty)
	return least != nil && number.Cmp(least) >= 0 && number.Cmp(above) < 0
}

// numberOf is the number of the value n; nil, if there is none.
func numberOf(ty int, n uint64) *big.Int {
	number := new(big.Int).SetUint64(n)
	if slices.Contains([]int{1, 2, 5, 6, 10, 11}, ty) {
		number.SetInt64(int64(n))
	}
	if !within(ty, number) {
		return nil
	}
	return number
}

// valueOf is the value of that number, and whether there is one.
func valueOf(ty int, number *big.Int) (uint64, bool) {
	if number == nil || !within(ty, number) {
		return 0, false
	}
	return new(big.Int).Mod(number, power(64)).Uint64(), true
}

// read is the number n with or without a minus ahead.
func read(n uint64, neg bool) *big.Int {
	number := new(big.Int).SetUint64(n)
	if neg {
		number.Neg(number)
	}
	return number
}

// holdConv tells where Conv answers otherwise than that.
func holdConv(t *testing.T, from, to int, n, want uint64, there bool) {
	t.Helper()
	if got, ok := conv.Conv(from, to, n); got != want || ok != there {
		t.Errorf("Conv(%d, %d, %d): %d, %t; wanted %d, %t", from, to, n, got, ok, want, there)
	}
}

// holdDigits tells where Digits answers otherwise than that.
func holdDigits(t *testing.T, ty int, n uint64, want string) {
	t.Helper()
	if got := conv.Digits(ty, n); got != want {
		t.Errorf("Digits(%d, %d): %q; wanted %q", ty, n, got, want)
	}
}

// holdRead tells where Read answers otherwise than that.
func holdRead(t *testing.T, ty int, n uint64, neg bool, want uint64, there bool) {
	t.Helper()
	if got, ok := conv.Read(ty, n, neg); got != want || ok != there {
		t.Errorf("Read(%d, %d, %t): %d, %t; wanted %d, %t", ty, n, neg, got, ok, want, there)
	}
}

// P13.1, P13.2: the chapter's examples.
func TestExamples(t *testing.T) {
	holdConv(t, api.TyInt64, api.TyUint32, 1<<64-1, 0, false)
	holdDigits(t, api.TyInt32, 1<<64-1, "-1")
}

// P13.1: every pair of whole types at numbers worked out by hand: the least and the greatest one of each, and those next to them.
func TestConvOfKnownNumbers(t *testing.T) {
	for _, k := range known {
		for _, from := range k.types {
			for _, to := range whole {
				if slices.Contains(k.types, to) {
					holdConv(t, from, to, k.bits, k.bits, true)
				} else {
					holdConv(t, from, to, k.bits, 0, false)
				}
			}
		}
	}
}

// P13.2: the digits of the same numbers, and the numbers read, of the types that have them and of those that do not.
func TestDigitsAndReadOfKnownNumbers(t *testing.T) {
	for _, k := range known {
		for _, ty := range whole {
			if slices.Contains(k.types, ty) {
				holdDigits(t, ty, k.bits, k.digits)
				holdRead(t, ty, k.n, k.neg, k.bits, true)
			} else {
				holdRead(t, ty, k.n, k.neg, 0, false)
			}
		}
	}
}

// P13.1, P13.2: every pair of whole types at small numbers, above 0 and below it.
func TestSmallNumbers(t *testing.T) {
	for n := int64(-100); n <= 100; n++ {
		told := uint64(n)
		for _, from := range whole {
			has := n >= 0 || slices.Contains(short, from) || slices.Contains(long, from)
			if has {
				holdDigits(t, from, told, big.NewInt(n).String())
				holdRead(t, from, uint64(max(n, -n)), n < 0, told, true)
			} else {
				holdRead(t, from, uint64(-n), true, 0, false)
			}
			for _, to := range whole {
				switch {
				case n >= 0 || slices.Contains(slices.Concat(short, long), from) && slices.Contains(slices.Concat(short, long), to):
					holdConv(t, from, to, told, told, true)
				case slices.Contains(longFrom, from) && slices.Contains(longFrom, to):
					// Without a sign the same bits are a number far above 0.
					holdConv(t, from, to, told, told, true)
				default:
					holdConv(t, from, to, told, 0, false)
				}
			}
		}
	}
}

// P13.1, P13.2: a value that may not be of its type has no number, even if other types have the one that its bits are.
func TestWhatMayNotBe(t *testing.T) {
	for _, k := range []struct {
		types []int
		not   []uint64
	}{
		{short, []uint64{1 << 31, 1<<31 + 1, 1<<32 - 1, 1 << 32, 1<<32 + 1, 1<<63 - 1, 1 << 63, 1<<64 - 1<<32, 1<<64 - 1<<31 - 1}},
		{shortFrom, []uint64{1 << 32, 1<<32 + 1, 1<<33 + 5, 1<<63 - 1, 1 << 63, 1<<64 - 1<<31, 1<<64 - 1}},
	} {
		for _, from := range k.types {
			for _, n := range k.not {
				if scalar.May(from, n) {
					t.Fatalf("May(%d, %d): true", from, n)
				}
				holdDigits(t, from, n, "")
				for _, to := range whole {
					holdConv(t, from, to, n, 0, false)
				}
			}
		}
	}
}

// P13.2: numbers with a minus ahead and without one, of types with a sign and of those without, worked out by hand.
func TestReadWithAMinusAndWithout(t *testing.T) {
	for _, k := range []struct {
		n           uint64
		plain, with []int
		below       uint64
	}{
		{0, whole, whole, 0},
		{1, whole, slices.Concat(short, long), 1<<64 - 1},
		{1<<31 - 1, whole, slices.Concat(short, long), 1<<64 - 1<<31 + 1},
		{1 << 31, slices.Concat(long, shortFrom, longFrom), slices.Concat(short, long), 1<<64 - 1<<31},
		{1<<31 + 1, slices.Concat(long, shortFrom, longFrom), long, 1<<64 - 1<<31 - 1},
		{1<<32 - 1, slices.Concat(long, shortFrom, longFrom), long, 1<<64 - 1<<32 + 1},
		{1 << 32, slices.Concat(long, longFrom), long, 1<<64 - 1<<32},
		{1<<63 - 1, slices.Concat(long, longFrom), long, 1<<63 + 1},
		{1 << 63, longFrom, long, 1 << 63},
		// So far below 0 there is none, though the bits would be those of one above it.
		{1<<63 + 1, longFrom, nil, 0},
		{1<<64 - 1<<31, longFrom, nil, 0},
		{1<<64 - 2, longFrom, nil, 0},
		{1<<64 - 1, longFrom, nil, 0},
	} {
		for _, ty := range whole {
			if slices.Contains(k.plain, ty) {
				holdRead(t, ty, k.n, false, k.n, true)
			} else {
				holdRead(t, ty, k.n, false, 0, false)
			}
			if slices.Contains(k.with, ty) {
				holdRead(t, ty, k.n, true, k.below, true)
			} else {
				holdRead(t, ty, k.n, true, 0, false)
			}
		}
	}
}

// P13.1, P13.2: word by word, in numbers without an end, of all types and of some that are none.
func TestWordByWord(t *testing.T) {
	l := numbers()
	for from := -3; from <= 20; from++ {
		for _, n := range l {
			number := numberOf(from, n)
			digits := ""
			if number != nil {
				digits = number.String()
			}
			holdDigits(t, from, n, digits)
			for to := -3; to <= 20; to++ {
				want, there := valueOf(to, number)
				holdConv(t, from, to, n, want, there)
			}
			for _, neg := range []bool{false, true} {
				want, there := valueOf(from, read(n, neg))
				holdRead(t, from, n, neg, want, there)
			}
		}
		if t.Failed() {
			return
		}
	}
}

// P13.3: what is made another one is made the first one again.
func TestConvBack(t *testing.T) {
	for _, n := range numbers() {
		for _, from := range whole {
			for _, to := range whole {
				if m, ok := conv.Conv(from, to, n); ok {
					holdConv(t, to, from, m, n, true)
					holdDigits(t, to, m, conv.Digits(from, n))
				}
			}
		}
	}
}

// P13.3: the digits of each value are one token, whose number is read as the value; a value of another type only, if it has the same number.
func TestDigitsReadAgain(t *testing.T) {
	for _, n := range numbers() {
		for _, ty := range whole {
			if !scalar.May(ty, n) {
				continue
			}
			digits := conv.Digits(ty, n)
			l, _, e := lex.All(digits, api.MaxText)
			if e != api.OK || len(l) != 2 || l[0].Kind != lex.Number {
				t.Fatalf("Digits(%d, %d): %q, which is no number", ty, n, digits)
			}
			holdRead(t, ty, l[0].N, l[0].Neg, n, true)
			for _, other := range whole {
				want, there := conv.Conv(ty, other, n)
				holdRead(t, other, l[0].N, l[0].Neg, want, there)
			}
		}
	}
}

// P13.1: each value that may be of a whole type is made one of its own type, and of those that have the same numbers.
func TestSameNumbers(t *testing.T) {
	for _, types := range [][]int{short, long, shortFrom, longFrom} {
		for _, from := range types {
			for _, to := range types {
				for _, n := range numbers() {
					if scalar.May(from, n) {
						holdConv(t, from, to, n, n, true)
					} else {
						holdConv(t, from, to, n, 0, false)
					}
				}
			}
		}
	}
}

// P13.1, P13.2: types that are not whole, and no types, as the one ahead, as the one behind, and as both.
func TestNotWhole(t *testing.T) {
	wrong := append([]int{api.TyBool, api.TyString, api.TyBytes, api.TyEnum, api.TyMessage}, none()...)
	for _, n := range []uint64{0, 1, 2, 1<<31 - 1, 1 << 31, 1<<32 - 1, 1 << 63, 1<<64 - 1} {
		for _, ty := range wrong {
			holdDigits(t, ty, n, "")
			holdRead(t, ty, n, false, 0, false)
			holdRead(t, ty, n, true, 0, false)
			holdConv(t, ty, ty, n, 0, false)
			for _, other := range whole {
				holdConv(t, ty, other, n, 0, false)
				holdConv(t, other, ty, n, 0, false)
			}
		}
		for _, from := range wrong[:20] {
			for _, to := range wrong[:20] {
				holdConv(t, from, to, n, 0, false)
			}
		}
	}
}

// answers is what one number comes to, of each type and each pair of types.
type answers struct {
	digits []string
	values []uint64
	there  []bool
}

// put lays one value behind the others.
func (a *answers) put(n uint64, ok bool) {
	a.values = append(a.values, n)
	a.there = append(a.there, ok)
}

// asked is all answers for n.
func asked(n uint64) *answers {
	a := &answers{}
	for from := -1; from <= 17; from++ {
		a.digits = append(a.digits, conv.Digits(from, n))
		a.put(conv.Read(from, n, false))
		a.put(conv.Read(from, n, true))
		for to := -1; to <= 17; to++ {
			a.put(conv.Conv(from, to, n))
		}
	}
	return a
}

// P13.1, P13.2: what a call answers hangs on its arguments alone.
func TestAskedAgain(t *testing.T) {
	var first []*answers
	for _, k := range known {
		first = append(first, asked(k.bits))
	}
	for range 3 {
		for i := len(known) - 1; i >= 0; i-- {
			again := asked(known[i].bits)
			if !slices.Equal(again.digits, first[i].digits) || !slices.Equal(again.values, first[i].values) || !slices.Equal(again.there, first[i].there) {
				t.Errorf("the number %d, asked again, is told otherwise", known[i].bits)
			}
		}
	}
}
