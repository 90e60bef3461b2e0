package num_test

import (
	"math"
	"math/big"
	"math/rand"
	"slices"
	"testing"

	"ecdysis/api"
	"ecdysis/num"
	"ecdysis/scalar"
)

// all is every type, number types and others.
var all = []int{
	api.TyInt32, api.TyInt64, api.TyUint32, api.TyUint64, api.TySint32, api.TySint64, api.TyBool,
	api.TyFixed32, api.TyFixed64, api.TySfixed32, api.TySfixed64, api.TyString, api.TyBytes, api.TyEnum, api.TyMessage,
}

// numberTypes is those of P11.1.
var numberTypes = []int{
	api.TyInt32, api.TyInt64, api.TyUint32, api.TyUint64, api.TySint32, api.TySint64, api.TyBool,
	api.TyFixed32, api.TyFixed64, api.TySfixed32, api.TySfixed64, api.TyEnum,
}

// narrow is the number types whose From hangs on the lowest 32 bits alone.
var narrow = []int{api.TyInt32, api.TyUint32, api.TySint32, api.TyFixed32, api.TySfixed32, api.TyEnum}

// edges is the numbers that the tables below have answers for, in their order.
var edges = [15]uint64{
	0, 1, 2, 1<<31 - 1, 1 << 31, 1<<31 + 1, 1<<32 - 1, 1 << 32, 1<<32 + 1,
	1<<63 - 1, 1 << 63, 1<<64 - 2, 1<<64 - 1, 1<<64 - 1<<31, 1<<64 - 1<<31 - 1,
}

// lowest is the edges' lowest 32 bits, worked out by hand.
var lowest = [15]uint64{
	0, 1, 2, 1<<31 - 1, 1 << 31, 1<<31 + 1, 1<<32 - 1, 0, 1,
	1<<32 - 1, 0, 1<<32 - 2, 1<<32 - 1, 1 << 31, 1<<31 - 1,
}

// fromEdges is what From answers of the edges, worked out by hand.
var fromEdges = []struct {
	types []int
	want  [15]uint64
}{
	{[]int{api.TyInt32, api.TySfixed32, api.TyEnum}, [15]uint64{
		0, 1, 2, 1<<31 - 1, 1<<64 - 1<<31, 1<<64 - 1<<31 + 1, 1<<64 - 1, 0, 1,
		1<<64 - 1, 0, 1<<64 - 2, 1<<64 - 1, 1<<64 - 1<<31, 1<<31 - 1,
	}},
	{[]int{api.TyUint32, api.TyFixed32}, lowest},
	{[]int{api.TySint32}, [15]uint64{
		0, 1<<64 - 1, 1, 1<<64 - 1<<30, 1 << 30, 1<<64 - 1<<30 - 1, 1<<64 - 1<<31, 0, 1<<64 - 1,
		1<<64 - 1<<31, 0, 1<<31 - 1, 1<<64 - 1<<31, 1 << 30, 1<<64 - 1<<30,
	}},
	{[]int{api.TySint64}, [15]uint64{
		0, 1<<64 - 1, 1, 1<<64 - 1<<30, 1 << 30, 1<<64 - 1<<30 - 1, 1<<64 - 1<<31, 1 << 31, 1<<64 - 1<<31 - 1,
		1<<64 - 1<<62, 1 << 62, 1<<63 - 1, 1 << 63, 1<<63 - 1<<30, 1<<63 + 1<<30,
	}},
	{[]int{api.TyBool}, [15]uint64{0, 1, 1, 1, 1, 1, 1, 1, 1, 1, 1, 1, 1, 1, 1}},
	{[]int{api.TyInt64, api.TyUint64, api.TyFixed64, api.TySfixed64}, edges},
	{[]int{api.TyString, api.TyBytes, api.TyMessage}, [15]uint64{}},
}

// toEdges is what To answers of the edges, worked out by hand.
var toEdges = []struct {
	types []int
	want  [15]uint64
}{
	{[]int{api.TyInt32, api.TyEnum, api.TyInt64, api.TyUint64, api.TyBool, api.TyFixed64, api.TySfixed64}, edges},
	{[]int{api.TyUint32, api.TyFixed32, api.TySfixed32}, lowest},
	{[]int{api.TySint32, api.TySint64}, [15]uint64{
		0, 2, 4, 1<<32 - 2, 1 << 32, 1<<32 + 2, 1<<33 - 2, 1 << 33, 1<<33 + 2,
		1<<64 - 2, 1<<64 - 1, 3, 1, 1<<32 - 1, 1<<32 + 1,
	}},
	{[]int{api.TyString, api.TyBytes, api.TyMessage}, [15]uint64{}},
}

// none is what is no type: next to the types, far from them, and what has a type's number as its lowest bits.
func none() []int {
	l := []int{0, -1, 16, math.MinInt, math.MaxInt}
	for i := 1; i < 1000; i++ {
		l = append(l, -i, 15+i)
	}
	for shift := 4; shift < 63; shift++ {
		for ty := range 16 {
			l = append(l, 1<<shift+ty, -1<<shift+ty, math.MinInt+ty, math.MaxInt-ty)
		}
	}
	return slices.DeleteFunc(l, func(ty int) bool { return 1 <= ty && ty <= 15 })
}

// numbers is the edges, those near to 0, those about every power of two, above 0 and below it, and some of all kinds.
func numbers() []uint64 {
	l := slices.Clone(edges[:])
	for n := range uint64(1000) {
		l = append(l, n, -n)
	}
	for shift := range 64 {
		for d := range uint64(9) {
			n := uint64(1)<<shift + d - 4
			l = append(l, n, -n, 1<<63+n, 1<<32+n, 3<<32+n)
		}
	}
	draw := rand.New(rand.NewSource(12))
	for range 3000 {
		l = append(l, draw.Uint64()>>draw.Intn(64), -(draw.Uint64() >> draw.Intn(64)))
	}
	return l
}

// bits is n's lowest 64 bits.
func bits(n *big.Int) uint64 {
	return new(big.Int).Mod(n, power(64)).Uint64()
}

// power is a power of two.
func power(of uint) *big.Int {
	return new(big.Int).Lsh(big.NewInt(1), of)
}

// cut is n's lowest 32 bits.
func cut(n *big.Int) *big.Int {
	return new(big.Int).Mod(n, power(32))
}

// minus is n with a sign, if it has so many bits: those from the half on are below 0.
func minus(n *big.Int, many uint) *big.Int {
	if n.Cmp(power(many-1)) < 0 {
		return n
	}
	return new(big.Int).Sub(n, power(many))
}

// zagged is the number n of which u is 2 n, or -2 n - 1 below 0.
func zagged(u *big.Int) *big.Int {
	if u.Bit(0) == 0 {
		return new(big.Int).Quo(u, big.NewInt(2))
	}
	n := new(big.Int).Add(u, big.NewInt(1))
	return n.Neg(n.Quo(n, big.NewInt(2)))
}

// zigged is 2 n, or -2 n - 1 below 0.
func zigged(n *big.Int) *big.Int {
	twice := new(big.Int).Mul(n, big.NewInt(2))
	if n.Sign() >= 0 {
		return twice
	}
	return twice.Sub(big.NewInt(-1), twice)
}

// wantedFrom is P12.1 of From, in numbers without an end.
func wantedFrom(ty int, on uint64) uint64 {
	u := new(big.Int).SetUint64(on)
	switch ty {
	case 1, 10, 14:
		return bits(minus(cut(u), 32))
	case 3, 8:
		return bits(cut(u))
	case 5:
		return bits(zagged(cut(u)))
	case 6:
		return bits(zagged(u))
	case 7:
		return uint64(u.Sign())
	case 2, 4, 9, 11:
		return bits(u)
	}
	return 0
}

// wantedTo is P12.1 of To, in numbers without an end.
func wantedTo(ty int, told uint64) uint64 {
	n := new(big.Int).SetUint64(told)
	switch ty {
	case 1, 14, 2, 4, 7, 9, 11:
		return bits(n)
	case 3, 8, 10:
		return bits(cut(n))
	case 5, 6:
		return bits(zigged(minus(n, 64)))
	}
	return 0
}

// holdFrom tells where From answers otherwise than want.
func holdFrom(t *testing.T, ty int, u, want uint64) {
	t.Helper()
	if got := num.From(ty, u); got != want {
		t.Errorf("From(%d, %d): %d; wanted %d", ty, u, got, want)
	}
}

// holdTo tells where To answers otherwise than want.
func holdTo(t *testing.T, ty int, n, want uint64) {
	t.Helper()
	if got := num.To(ty, n); got != want {
		t.Errorf("To(%d, %d): %d; wanted %d", ty, n, got, want)
	}
}

// P12.1: the chapter's example.
func TestExample(t *testing.T) {
	if got := num.From(api.TyInt32, 1<<32-1); int64(got) != -1 {
		t.Errorf("From(TyInt32, 2^32 - 1): %d; wanted -1, as 64 bits", int64(got))
	}
}

// P12.1: each type at the edges, worked out by hand; each of the 15 types is in both tables, once.
func TestEdges(t *testing.T) {
	var there, back []int
	for _, k := range fromEdges {
		there = append(there, k.types...)
		for _, ty := range k.types {
			for i, u := range edges {
				holdFrom(t, ty, u, k.want[i])
			}
		}
	}
	for _, k := range toEdges {
		back = append(back, k.types...)
		for _, ty := range k.types {
			for i, n := range edges {
				holdTo(t, ty, n, k.want[i])
			}
		}
	}
	for _, l := range [][]int{there, back} {
		slices.Sort(l)
		if !slices.Equal(l, all) {
			t.Errorf("the table has the types %v", l)
		}
	}
}

// P12.1: small numbers, above 0 and below it, on the wire and off it, worked out by hand.
func TestSmallNumbers(t *testing.T) {
	plain := []int{api.TyInt32, api.TyInt64, api.TyEnum, api.TySfixed64}
	for n := int64(-100); n <= 100; n++ {
		told := uint64(n)
		for _, ty := range plain {
			holdFrom(t, ty, told, told)
			holdTo(t, ty, told, told)
		}
		low := told
		if n < 0 {
			low = 4294967296 - uint64(-n)
		}
		holdFrom(t, api.TySfixed32, low, told)
		holdTo(t, api.TySfixed32, told, low)
		on := 2 * uint64(n)
		if n < 0 {
			on = 2*uint64(-n) - 1
		}
		for _, ty := range []int{api.TySint32, api.TySint64} {
			holdFrom(t, ty, on, told)
			holdTo(t, ty, told, on)
		}
	}
	for n := range uint64(100) {
		for _, ty := range []int{api.TyUint32, api.TyUint64, api.TyFixed32, api.TyFixed64} {
			holdFrom(t, ty, n, n)
			holdTo(t, ty, n, n)
		}
	}
}

// P12.1: a bool is 1, whatever stands there that is not 0, wherever its bits are; and To lets be what is handed in.
func TestBool(t *testing.T) {
	holdFrom(t, api.TyBool, 0, 0)
	for shift := range 64 {
		for _, u := range []uint64{1 << shift, 1<<shift + 1, 1<<63 + 1<<shift, -(1 << shift)} {
			if u != 0 {
				holdFrom(t, api.TyBool, u, 1)
			}
			holdTo(t, api.TyBool, u, u)
		}
	}
}

// P12.1: From and To of each type, word by word.
func TestWordByWord(t *testing.T) {
	l := numbers()
	for ty := -3; ty <= 20; ty++ {
		for _, n := range l {
			if got, want := num.From(ty, n), wantedFrom(ty, n); got != want {
				t.Fatalf("From(%d, %d): %d; wanted %d", ty, n, got, want)
			}
			if got, want := num.To(ty, n), wantedTo(ty, n); got != want {
				t.Fatalf("To(%d, %d): %d; wanted %d", ty, n, got, want)
			}
		}
	}
}

// P12.1: what stands above the lowest 32 bits does not matter to just those types of which the chapter says so.
func TestLowestBitsAlone(t *testing.T) {
	for _, u := range numbers() {
		for _, ty := range narrow {
			want := num.From(ty, u&(1<<32-1))
			for _, above := range []uint64{0, 1, 2, 1 << 15, 1<<31 - 1, 1 << 31, 1<<32 - 1} {
				holdFrom(t, ty, u&(1<<32-1)|above<<32, want)
			}
			holdFrom(t, ty, u, want)
		}
	}
	for _, ty := range numberTypes {
		if slices.Contains(narrow, ty) {
			continue
		}
		for shift := 32; shift < 64; shift++ {
			if num.From(ty, 1<<shift) == num.From(ty, 0) {
				t.Errorf("From(%d, 2^%d) is what From of 0 is", ty, shift)
			}
		}
	}
}

// P12.1: To of numbers that may not be of the type is told as the chapter says, not cut to the type.
func TestToOfWhatMayNotBe(t *testing.T) {
	for _, k := range []struct {
		ty      int
		n, want uint64
	}{
		{api.TyInt32, 1 << 31, 1 << 31},
		{api.TyInt32, 1<<40 + 5, 1<<40 + 5},
		{api.TyInt32, 1<<64 - 1<<31 - 1, 1<<64 - 1<<31 - 1},
		{api.TyEnum, 1 << 32, 1 << 32},
		{api.TyEnum, 1 << 63, 1 << 63},
		{api.TyUint32, 1 << 32, 0},
		{api.TyUint32, 1<<40 + 5, 5},
		{api.TyUint32, 1<<64 - 1, 1<<32 - 1},
		{api.TyFixed32, 1<<33 + 7, 7},
		{api.TyFixed32, 1<<64 - 2, 1<<32 - 2},
		{api.TySfixed32, 1 << 31, 1 << 31},
		{api.TySfixed32, 1<<40 + 5, 5},
		{api.TySfixed32, 1<<64 - 1<<31 - 1, 1<<31 - 1},
		{api.TySint32, 1 << 31, 1 << 32},
		{api.TySint32, 1<<40 + 5, 1<<41 + 10},
		{api.TySint32, 1<<64 - 1<<31 - 1, 1<<32 + 1},
		{api.TySint32, 1 << 63, 1<<64 - 1},
		{api.TyBool, 2, 2},
		{api.TyBool, 256, 256},
		{api.TyBool, 1<<64 - 1, 1<<64 - 1},
	} {
		if scalar.May(k.ty, k.n) {
			t.Fatalf("May(%d, %d): true", k.ty, k.n)
		}
		holdTo(t, k.ty, k.n, k.want)
	}
}

// P12.1: 0 from both of a type that has no numbers, and of what is no type.
func TestNoNumberType(t *testing.T) {
	l := append([]uint64{3, 5, 300, 1 << 16, 1<<40 + 5}, edges[:]...)
	for _, ty := range append([]int{api.TyString, api.TyBytes, api.TyMessage}, none()...) {
		for _, n := range l {
			holdFrom(t, ty, n, 0)
			holdTo(t, ty, n, 0)
		}
	}
}

// P12.2: what From tells of a number type may be of it.
func TestFromTellsWhatMayBe(t *testing.T) {
	for _, ty := range numberTypes {
		for _, u := range numbers() {
			if n := num.From(ty, u); !scalar.May(ty, n) {
				t.Fatalf("From(%d, %d): %d, which may not be", ty, u, n)
			}
		}
	}
}

// P12.2: of what may be, From of To is it; of what may not be, it is another one.
func TestFromOfTo(t *testing.T) {
	for _, ty := range all {
		for _, n := range numbers() {
			if again := num.From(ty, num.To(ty, n)); (again == n) != scalar.May(ty, n) {
				t.Fatalf("From(%d) of To of %d: %d, and May: %t", ty, n, again, scalar.May(ty, n))
			}
		}
	}
}

// P12.2: the least and the greatest number that may be come back; the first ones that may not do not.
func TestEnds(t *testing.T) {
	for _, k := range []struct {
		types []int
		may   []uint64
		not   []uint64
	}{
		{[]int{api.TyInt32, api.TySint32, api.TySfixed32, api.TyEnum},
			[]uint64{0, 1, 1<<64 - 1, 1<<31 - 1, 1<<64 - 1<<31}, []uint64{1 << 31, 1<<64 - 1<<31 - 1}},
		{[]int{api.TyUint32, api.TyFixed32},
			[]uint64{0, 1, 1<<31 - 1, 1 << 31, 1<<32 - 1}, []uint64{1 << 32, 1<<64 - 1}},
		{[]int{api.TyInt64, api.TyUint64, api.TySint64, api.TyFixed64, api.TySfixed64},
			[]uint64{0, 1, 1<<31 - 1, 1 << 31, 1<<32 - 1, 1 << 32, 1<<63 - 1, 1 << 63, 1<<64 - 1}, nil},
		{[]int{api.TyBool},
			[]uint64{0, 1}, []uint64{2, 1<<64 - 1}},
	} {
		for _, ty := range k.types {
			for _, n := range k.may {
				holdFrom(t, ty, num.To(ty, n), n)
			}
			for _, n := range k.not {
				if again := num.From(ty, num.To(ty, n)); again == n {
					t.Errorf("From(%d) of To of %d is it, and it may not be", ty, n)
				}
			}
		}
	}
}

// P12.1: what a call answers hangs on its arguments alone.
func TestAskedAgain(t *testing.T) {
	asked := func(ty int) (l []uint64) {
		for _, n := range edges {
			l = append(l, num.From(ty, n), num.To(ty, n))
		}
		return l
	}
	first := map[int][]uint64{}
	for ty := -2; ty <= 18; ty++ {
		first[ty] = asked(ty)
	}
	for range 3 {
		for ty := 18; ty >= -2; ty-- {
			if again := asked(ty); !slices.Equal(again, first[ty]) {
				t.Errorf("the type %d: %d, and asked again %d", ty, first[ty], again)
			}
		}
	}
}
