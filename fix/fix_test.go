package fix_test

import (
	"bytes"
	"math"
	"slices"
	"testing"

	"ecdysis/fix"
)

// known4 is numbers and their four bytes, worked out by hand.
var known4 = []struct {
	n uint32
	b []byte
}{
	{0, []byte{0, 0, 0, 0}},
	{1, []byte{1, 0, 0, 0}},
	{258, []byte{2, 1, 0, 0}},
	{127, []byte{0x7f, 0, 0, 0}},
	{128, []byte{0x80, 0, 0, 0}},
	{255, []byte{0xff, 0, 0, 0}},
	{256, []byte{0, 1, 0, 0}},
	{1 << 16, []byte{0, 0, 1, 0}},
	{1 << 24, []byte{0, 0, 0, 1}},
	{1 << 31, []byte{0, 0, 0, 0x80}},
	{0x01020304, []byte{4, 3, 2, 1}},
	{0xfedcba98, []byte{0x98, 0xba, 0xdc, 0xfe}},
	{math.MaxUint32 - 1, []byte{0xfe, 0xff, 0xff, 0xff}},
	{math.MaxUint32, []byte{0xff, 0xff, 0xff, 0xff}},
}

// known8 is numbers and their eight bytes, worked out by hand.
var known8 = []struct {
	n uint64
	b []byte
}{
	{0, []byte{0, 0, 0, 0, 0, 0, 0, 0}},
	{1, []byte{1, 0, 0, 0, 0, 0, 0, 0}},
	{258, []byte{2, 1, 0, 0, 0, 0, 0, 0}},
	{255, []byte{0xff, 0, 0, 0, 0, 0, 0, 0}},
	{1 << 31, []byte{0, 0, 0, 0x80, 0, 0, 0, 0}},
	{math.MaxUint32, []byte{0xff, 0xff, 0xff, 0xff, 0, 0, 0, 0}},
	{1 << 32, []byte{0, 0, 0, 0, 1, 0, 0, 0}},
	{1 << 40, []byte{0, 0, 0, 0, 0, 1, 0, 0}},
	{1 << 48, []byte{0, 0, 0, 0, 0, 0, 1, 0}},
	{1 << 56, []byte{0, 0, 0, 0, 0, 0, 0, 1}},
	{1 << 63, []byte{0, 0, 0, 0, 0, 0, 0, 0x80}},
	{0x0102030405060708, []byte{8, 7, 6, 5, 4, 3, 2, 1}},
	{0xfedcba9876543210, []byte{0x10, 0x32, 0x54, 0x76, 0x98, 0xba, 0xdc, 0xfe}},
	{math.MaxUint64 - 1, []byte{0xfe, 0xff, 0xff, 0xff, 0xff, 0xff, 0xff, 0xff}},
	{math.MaxUint64, []byte{0xff, 0xff, 0xff, 0xff, 0xff, 0xff, 0xff, 0xff}},
}

// behind is what may stand behind a number.
var behind = [][]byte{
	nil,
	{},
	{0},
	{9},
	{0xff},
	{1, 2, 3},
	{0xff, 0xff, 0xff, 0xff},
	{0x80, 0x80, 0x80, 0x80, 0x80, 0x80, 0x80, 0x80, 0x80},
	{2, 1, 0, 0, 0, 0, 0, 0, 2, 1, 0, 0, 0, 0, 0, 0},
}

// numbers is all that are near to 0, those about every power of two, and some whose bytes are unlike one another.
func numbers() []uint64 {
	var l []uint64
	for n := range uint64(1 << 12) {
		l = append(l, n, -n)
	}
	for i := range 64 {
		for d := range uint64(5) {
			l = append(l, uint64(1)<<i+d-2)
		}
	}
	for _, u := range []uint64{0x0123456789abcdef, 0xfedcba9876543210, 0x8040201008040201} {
		for i := range 64 {
			l = append(l, u>>i, u<<i)
		}
	}
	return l
}

// digits is the first count digits of n to the base 256, the lowest one first.
func digits(n uint64, count int) []byte {
	var b []byte
	for range count {
		b = append(b, byte(n%256))
		n /= 256
	}
	return b
}

// value is what such digits come to.
func value(b []byte) uint64 {
	var n uint64
	for _, c := range slices.Backward(b) {
		n = n*256 + uint64(c)
	}
	return n
}

// P3.1
func TestFourBytesOfKnownNumbers(t *testing.T) {
	for _, k := range known4 {
		if b := fix.Put4(k.n); !bytes.Equal(b, k.b) {
			t.Errorf("Put4(%d): % x; wanted % x", k.n, b, k.b)
		}
		if n, ok := fix.Get4(k.b); n != k.n || !ok {
			t.Errorf("Get4(% x): %d, %t; wanted %d", k.b, n, ok, k.n)
		}
	}
}

// P3.1
func TestEightBytesOfKnownNumbers(t *testing.T) {
	for _, k := range known8 {
		if b := fix.Put8(k.n); !bytes.Equal(b, k.b) {
			t.Errorf("Put8(%d): % x; wanted % x", k.n, b, k.b)
		}
		if n, ok := fix.Get8(k.b); n != k.n || !ok {
			t.Errorf("Get8(% x): %d, %t; wanted %d", k.b, n, ok, k.n)
		}
	}
}

// P3.1: the number's bytes, the lowest one first.
func TestPutWordByWord(t *testing.T) {
	for _, n := range numbers() {
		if b, want := fix.Put4(uint32(n)), digits(n, 4); !bytes.Equal(b, want) {
			t.Fatalf("Put4(%d): % x; wanted % x", uint32(n), b, want)
		}
		if b, want := fix.Put8(n), digits(n, 8); !bytes.Equal(b, want) {
			t.Fatalf("Put8(%d): % x; wanted % x", n, b, want)
		}
	}
}

// P3.1: only the first four, eight bytes are the number's; each byte alone, at each place.
func TestGetWordByWord(t *testing.T) {
	for place := range 12 {
		for c := range 256 {
			b := make([]byte, 12)
			b[place] = byte(c)
			if n, ok := fix.Get4(b); uint64(n) != value(b[:4]) || !ok {
				t.Fatalf("Get4(% x): %d, %t", b, n, ok)
			}
			if n, ok := fix.Get8(b); n != value(b[:8]) || !ok {
				t.Fatalf("Get8(% x): %d, %t", b, n, ok)
			}
		}
	}
}

// P3.1: 0 and false of fewer bytes, nil and no bytes at all among them, whatever room lies behind them.
func TestGetOfTooFew(t *testing.T) {
	room := []byte{1, 2, 3, 4, 5, 6, 7, 8, 9}
	for _, full := range [][]byte{room, bytes.Repeat([]byte{0xff}, 9), make([]byte, 9)} {
		for size := range len(full) {
			cut := full[:size]
			if n, ok := fix.Get4(cut); ok != (size >= 4) || (!ok && n != 0) {
				t.Errorf("Get4(% x): %d, %t", cut, n, ok)
			}
			if n, ok := fix.Get8(cut); ok != (size >= 8) || (!ok && n != 0) {
				t.Errorf("Get8(% x): %d, %t", cut, n, ok)
			}
		}
	}
	if n, ok := fix.Get4(nil); n != 0 || ok {
		t.Errorf("Get4(nil): %d, %t", n, ok)
	}
	if n, ok := fix.Get8(nil); n != 0 || ok {
		t.Errorf("Get8(nil): %d, %t", n, ok)
	}
}

// P3.2
func TestWhatIsPutIsGot(t *testing.T) {
	for _, n := range numbers() {
		for _, more := range behind {
			four := append(fix.Put4(uint32(n)), more...)
			if m, ok := fix.Get4(four); m != uint32(n) || !ok {
				t.Fatalf("Get4(% x): %d, %t; wanted %d", four, m, ok, uint32(n))
			}
			eight := append(fix.Put8(n), more...)
			if m, ok := fix.Get8(eight); m != n || !ok {
				t.Fatalf("Get8(% x): %d, %t; wanted %d", eight, m, ok, n)
			}
		}
	}
}

// P3.1: what is handed in is not changed, and what is answered is new each time.
func TestNothingIsShared(t *testing.T) {
	given := []byte{1, 2, 3, 4, 5, 6, 7, 8, 9}
	old := slices.Clone(given)
	fix.Get4(given)
	fix.Get8(given)
	if !bytes.Equal(given, old) {
		t.Errorf("the bytes that were handed in: % x", given)
	}
	first4, first8 := fix.Put4(258), fix.Put8(258)
	clear(first4[:cap(first4)])
	clear(first8[:cap(first8)])
	if b := fix.Put4(258); !bytes.Equal(b, []byte{2, 1, 0, 0}) {
		t.Errorf("Put4(258), again: % x", b)
	}
	if b := fix.Put8(258); !bytes.Equal(b, []byte{2, 1, 0, 0, 0, 0, 0, 0}) {
		t.Errorf("Put8(258), again: % x", b)
	}
}
