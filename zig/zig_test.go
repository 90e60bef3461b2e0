package zig_test

import (
	"math"
	"math/big"
	"testing"

	"ecdysis/zig"
)

// known is numbers and what Zig makes of them, worked out by hand.
var known = []struct {
	n int64
	u uint64
}{
	{0, 0},
	{-1, 1},
	{1, 2},
	{-2, 3},
	{2, 4},
	{-64, 127},
	{64, 128},
	{math.MaxInt32, 1<<32 - 2},
	{math.MinInt32, 1<<32 - 1},
	{math.MaxInt32 + 1, 1 << 32},
	{math.MinInt32 - 1, 1<<32 + 1},
	{math.MaxInt64 - 1, 1<<64 - 4},
	{math.MinInt64 + 1, 1<<64 - 3},
	{math.MaxInt64, 1<<64 - 2},
	{math.MinInt64, 1<<64 - 1},
}

// numbers is all that are near to 0, and those about every power of two, above 0 and below it.
func numbers() []int64 {
	var l []int64
	for n := int64(-1 << 15); n <= 1<<15; n++ {
		l = append(l, n)
	}
	for i := range 64 {
		for d := range int64(9) {
			n := int64(1)<<i + d - 4
			l = append(l, n, -n)
		}
	}
	// Bits that are unlike one another in both halves.
	for _, u := range []uint64{0x0123456789abcdef, 0xfedcba9876543210, 0x5555555555555555, 0xaaaaaaaaaaaaaaaa} {
		for i := range 64 {
			l = append(l, int64(u>>i), int64(u<<i))
		}
	}
	return l
}

// unsigned is the same bits as numbers without a sign.
func unsigned() []uint64 {
	var l []uint64
	for _, n := range numbers() {
		l = append(l, uint64(n))
	}
	return l
}

// zigged is P2.1 word by word, in numbers without an end.
func zigged(n int64) *big.Int {
	twice := new(big.Int).Mul(big.NewInt(2), big.NewInt(n))
	if n >= 0 {
		return twice
	}
	return twice.Sub(big.NewInt(-1), twice)
}

// remainder is what n leaves, divided by 2^32: from 0 on and below 2^32.
func remainder(n *big.Int) *big.Int {
	return new(big.Int).Mod(n, big.NewInt(1<<32))
}

// P2.1
func TestZigAndZagOfKnownNumbers(t *testing.T) {
	for _, k := range known {
		if u := zig.Zig(k.n); u != k.u {
			t.Errorf("Zig(%d): %d; wanted %d", k.n, u, k.u)
		}
		if n := zig.Zag(k.u); n != k.n {
			t.Errorf("Zag(%d): %d; wanted %d", k.u, n, k.n)
		}
	}
}

// P2.1: 2 n from 0 on, and -2 n - 1 below it.
func TestZigWordByWord(t *testing.T) {
	for _, n := range numbers() {
		if u, want := zig.Zig(n), zigged(n); want.Cmp(new(big.Int).SetUint64(u)) != 0 {
			t.Fatalf("Zig(%d): %d; wanted %d", n, u, want)
		}
	}
}

// P2.1: each u is Zig of one number, and Zag is that one.
func TestZagIsWhatZigIsOf(t *testing.T) {
	for _, u := range unsigned() {
		n := zig.Zag(u)
		if want := zigged(n); want.Cmp(new(big.Int).SetUint64(u)) != 0 {
			t.Fatalf("Zag(%d): %d, of which Zig is %d", u, n, want)
		}
		if again := zig.Zig(n); again != u {
			t.Fatalf("Zig of Zag of %d: %d", u, again)
		}
	}
}

// P2.2: numbers worked out by hand.
func TestWideOfKnownNumbers(t *testing.T) {
	for _, k := range []struct {
		u uint64
		n int64
	}{
		{0, 0},
		{1, 1},
		{math.MaxInt32 - 1, math.MaxInt32 - 1},
		{math.MaxInt32, math.MaxInt32},
		{1 << 31, math.MinInt32},
		{1<<31 + 1, math.MinInt32 + 1},
		{1<<32 - 2, -2},
		{1<<32 - 1, -1},
		{1 << 32, 0},
		{1<<32 + 1, 1},
		{1<<40 + 5, 5},
		{1<<40 + 1<<31, math.MinInt32},
		{1<<63 - 1, -1},
		{1 << 63, 0},
		{1<<63 + math.MaxInt32, math.MaxInt32},
		{math.MaxUint64 - 1<<31, math.MaxInt32},
		{math.MaxUint64 - 1<<31 + 1, math.MinInt32},
		{math.MaxUint64, -1},
	} {
		if n := zig.Wide(k.u); n != k.n {
			t.Errorf("Wide(%d): %d; wanted %d", k.u, n, k.n)
		}
	}
}

// P2.2: numbers worked out by hand.
func TestLowOfKnownNumbers(t *testing.T) {
	for _, k := range []struct {
		n int64
		u uint32
	}{
		{0, 0},
		{1, 1},
		{-1, 1<<32 - 1},
		{-2, 1<<32 - 2},
		{math.MaxInt32, 1<<31 - 1},
		{math.MaxInt32 + 1, 1 << 31},
		{math.MinInt32, 1 << 31},
		{math.MinInt32 - 1, 1<<31 - 1},
		{1<<32 - 1, 1<<32 - 1},
		{1 << 32, 0},
		{1<<40 + 5, 5},
		{-1 << 32, 0},
		{-1<<32 - 1, 1<<32 - 1},
		{math.MaxInt64, 1<<32 - 1},
		{math.MinInt64, 0},
		{math.MinInt64 + 1, 1},
	} {
		if u := zig.Low(k.n); u != k.u {
			t.Errorf("Low(%d): %d; wanted %d", k.n, u, k.u)
		}
	}
}

// P2.2: numbers worked out by hand.
func TestFitsOfKnownNumbers(t *testing.T) {
	for _, n := range []int64{0, 1, -1, math.MaxInt32 - 1, math.MaxInt32, math.MinInt32, math.MinInt32 + 1} {
		if !zig.Fits(n) {
			t.Errorf("Fits(%d): false", n)
		}
	}
	for _, n := range []int64{
		math.MaxInt32 + 1, math.MaxInt32 + 2, math.MinInt32 - 1, math.MinInt32 - 2,
		1<<32 - 1, 1 << 32, 1<<32 + 1, 1<<40 + 5, -1 << 32, -1<<32 - 1, -1<<32 + 1,
		math.MaxInt64 - 1, math.MaxInt64, math.MinInt64, math.MinInt64 + 1,
	} {
		if zig.Fits(n) {
			t.Errorf("Fits(%d): true", n)
		}
	}
}

// P2.2: the lowest 32 bits, those from 2^31 on being of a number below 0.
func TestWideWordByWord(t *testing.T) {
	for _, u := range unsigned() {
		want := remainder(new(big.Int).SetUint64(u)).Int64()
		if want >= 1<<31 {
			want -= 1 << 32
		}
		if n := zig.Wide(u); n != want {
			t.Fatalf("Wide(%d): %d; wanted %d", u, n, want)
		}
	}
}

// P2.2
func TestLowAndFitsWordByWord(t *testing.T) {
	for _, n := range numbers() {
		if u, want := zig.Low(n), remainder(big.NewInt(n)).Uint64(); uint64(u) != want {
			t.Fatalf("Low(%d): %d; wanted %d", n, u, want)
		}
		if is, want := zig.Fits(n), n >= -2147483648 && n <= 2147483647; is != want {
			t.Fatalf("Fits(%d): %t; wanted %t", n, is, want)
		}
	}
}

// P2.3: Zag of Zig is the number.
func TestZagOfZig(t *testing.T) {
	for _, n := range numbers() {
		if m := zig.Zag(zig.Zig(n)); m != n {
			t.Fatalf("Zag of Zig of %d: %d", n, m)
		}
	}
}

// P2.3: Wide of Low of one that fits is it; of one that does not, it is another one, which fits.
func TestWideOfLow(t *testing.T) {
	for _, n := range numbers() {
		m := zig.Wide(uint64(zig.Low(n)))
		if !zig.Fits(m) {
			t.Fatalf("Wide of Low of %d: %d, which does not fit", n, m)
		}
		if (m == n) != zig.Fits(n) {
			t.Fatalf("Wide of Low of %d: %d, and Fits: %t", n, m, zig.Fits(n))
		}
	}
}
