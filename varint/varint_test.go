package varint_test

import (
	"bytes"
	"math"
	"slices"
	"testing"

	"ecdysis/varint"
)

// known is numbers and their bytes, worked out by hand, at the edges of every length.
var known = []struct {
	n uint64
	b []byte
}{
	{0, []byte{0}},
	{1, []byte{1}},
	{127, []byte{127}},
	{128, []byte{0x80, 1}},
	{300, []byte{0xac, 2}},
	{1<<14 - 1, []byte{255, 127}},
	{1 << 14, []byte{0x80, 0x80, 1}},
	{1<<21 - 1, []byte{255, 255, 127}},
	{1 << 21, []byte{0x80, 0x80, 0x80, 1}},
	{1<<28 - 1, []byte{255, 255, 255, 127}},
	{1 << 28, []byte{0x80, 0x80, 0x80, 0x80, 1}},
	{math.MaxUint32, []byte{255, 255, 255, 255, 15}},
	{1<<35 - 1, []byte{255, 255, 255, 255, 127}},
	{1 << 35, []byte{0x80, 0x80, 0x80, 0x80, 0x80, 1}},
	{1<<42 - 1, []byte{255, 255, 255, 255, 255, 127}},
	{1 << 42, []byte{0x80, 0x80, 0x80, 0x80, 0x80, 0x80, 1}},
	{1<<49 - 1, []byte{255, 255, 255, 255, 255, 255, 127}},
	{1 << 49, []byte{0x80, 0x80, 0x80, 0x80, 0x80, 0x80, 0x80, 1}},
	{1<<56 - 1, []byte{255, 255, 255, 255, 255, 255, 255, 127}},
	{1 << 56, []byte{0x80, 0x80, 0x80, 0x80, 0x80, 0x80, 0x80, 0x80, 1}},
	{1<<63 - 1, []byte{255, 255, 255, 255, 255, 255, 255, 255, 127}},
	{1 << 63, []byte{0x80, 0x80, 0x80, 0x80, 0x80, 0x80, 0x80, 0x80, 0x80, 1}},
	{math.MaxUint64, []byte{255, 255, 255, 255, 255, 255, 255, 255, 255, 1}},
}

// ten is nine bytes of that kind, and a last one.
func ten(first, last byte) []byte {
	return append(bytes.Repeat([]byte{first}, 9), last)
}

// numbers is all small numbers, and those about every power of two.
func numbers() []uint64 {
	var l []uint64
	for n := range uint64(1 << 15) {
		l = append(l, n)
	}
	for i := range 64 {
		for d := range uint64(5) {
			l = append(l, 1<<i+d-2)
		}
	}
	return l
}

// eachString hands on all strings of up to most of those bytes.
func eachString(alphabet []byte, most int, take func(b []byte)) {
	var grow func(b []byte)
	grow = func(b []byte) {
		take(b)
		if len(b) == most {
			return
		}
		for _, c := range alphabet {
			grow(append(slices.Clone(b), c))
		}
	}
	grow(nil)
}

// wanted is P1.2 word by word, with the number added up instead of put together by shifts.
func wanted(b []byte) (uint64, int) {
	end := slices.IndexFunc(b, func(c byte) bool { return c < 128 })
	if end < 0 || end > 9 || end == 9 && b[9] > 1 {
		return 0, 0
	}
	var n, worth uint64 = 0, 1
	for _, c := range b[:end+1] {
		n += uint64(c%128) * worth
		worth *= 128
	}
	return n, end + 1
}

func same(t *testing.T, b []byte, n uint64, size int) {
	t.Helper()
	if m, s := varint.Get(b); m != n || s != size {
		t.Fatalf("Get of % x: %d, %d; wanted %d, %d", b, m, s, n, size)
	}
}

func all(t *testing.T, b []byte, want []uint64, is bool) {
	t.Helper()
	if l, ok := varint.All(b); ok != is || !slices.Equal(l, want) {
		t.Fatalf("All of % x: %v, %v; wanted %v, %v", b, l, ok, want, is)
	}
}

// P1.1
func TestPutAndSizeOfKnownNumbers(t *testing.T) {
	for _, k := range known {
		if b := varint.Put(k.n); !bytes.Equal(b, k.b) {
			t.Errorf("Put(%d): % x; wanted % x", k.n, b, k.b)
		}
		if s := varint.Size(k.n); s != len(k.b) {
			t.Errorf("Size(%d): %d; wanted %d", k.n, s, len(k.b))
		}
	}
}

// P1.1: groups of seven, the lowest first, no more of them than there need be, 128 more in all but the last.
func TestPutHasTheGroups(t *testing.T) {
	for _, n := range numbers() {
		b := varint.Put(n)
		if len(b) != varint.Size(n) {
			t.Fatalf("Put(%d) has %d bytes, Size tells %d", n, len(b), varint.Size(n))
		}
		rest := n
		for i, c := range b {
			if uint64(c%128) != rest%128 {
				t.Fatalf("Put(%d): % x: byte %d has a wrong group", n, b, i)
			}
			rest /= 128
			if last := i == len(b)-1; last != (c < 128) || last != (rest == 0) {
				t.Fatalf("Put(%d): % x: it ends at a wrong byte", n, b)
			}
		}
		if len(b) == 0 {
			t.Fatalf("Put(%d): no byte", n)
		}
	}
}

// P1.2
func TestGetOfKnownNumbers(t *testing.T) {
	for _, k := range known {
		same(t, k.b, k.n, len(k.b))
	}
}

// P1.2: there may be more groups than there need be.
func TestGetWithMoreGroupsThanNeeded(t *testing.T) {
	same(t, []byte{0xac, 0x82, 0}, 300, 3)
	same(t, []byte{0x80, 0}, 0, 2)
	same(t, []byte{0x81, 0x80, 0x80, 0}, 1, 4)
	same(t, ten(0x80, 0), 0, 10)
	for _, k := range known {
		b := slices.Clone(k.b)
		for len(b) < 10 {
			b[len(b)-1] += 128
			b = append(b, 0)
			same(t, b, k.n, len(b))
		}
	}
}

// P1.2: the tenth byte is 0 or 1, and the last.
func TestGetOfTenBytes(t *testing.T) {
	same(t, ten(255, 0), 1<<63-1, 10)
	same(t, ten(255, 1), math.MaxUint64, 10)
	same(t, ten(0x80, 1), 1<<63, 10)
	for last := 2; last < 256; last++ {
		same(t, ten(255, byte(last)), 0, 0)
		same(t, ten(0x80, byte(last)), 0, 0)
		same(t, append(ten(0x80, byte(last)), 0), 0, 0)
	}
	same(t, append(ten(0x80, 0x80), 1), 0, 0)
	same(t, append(ten(0x80, 0x81), 0), 0, 0)
	same(t, bytes.Repeat([]byte{0x80}, 1000), 0, 0)
}

// P1.2: nothing is there, or it ends too early.
func TestGetOfWhatEndsTooEarly(t *testing.T) {
	same(t, nil, 0, 0)
	same(t, []byte{}, 0, 0)
	for _, k := range known {
		for cut := range k.b {
			same(t, k.b[:cut], 0, 0)
		}
	}
}

// P1.2: the number ends where it ends.
func TestGetWithBytesBehind(t *testing.T) {
	same(t, []byte{0, 0}, 0, 1)
	same(t, []byte{5, 255}, 5, 1)
	same(t, []byte{0xac, 2, 0xac, 2}, 300, 2)
	same(t, append(ten(255, 1), 255, 255), math.MaxUint64, 10)
}

// P1.2: of all short strings, and of all longer ones of bytes that stand for each kind.
func TestGetAndAllWordByWord(t *testing.T) {
	check := func(b []byte) {
		n, size := wanted(b)
		same(t, b, n, size)
		var l []uint64
		at := 0
		for at < len(b) {
			n, size := wanted(b[at:])
			if size == 0 {
				all(t, b, nil, false)
				return
			}
			l = append(l, n)
			at += size
		}
		all(t, b, l, true)
	}
	var every []byte
	for c := range 256 {
		every = append(every, byte(c))
	}
	eachString(every, 2, check)
	eachString([]byte{0, 1, 2, 127, 128, 255}, 6, check)
	for _, head := range []byte{128, 129, 255} {
		for long := range 12 {
			eachString([]byte{0, 1, 2, 127, 128, 129, 255}, 3, func(b []byte) {
				check(append(bytes.Repeat([]byte{head}, long), b...))
			})
		}
	}
}

// P1.2
func TestAll(t *testing.T) {
	all(t, nil, nil, true)
	all(t, []byte{}, nil, true)
	all(t, []byte{0}, []uint64{0}, true)
	all(t, []byte{0, 0, 0}, []uint64{0, 0, 0}, true)
	all(t, []byte{1, 0x80, 1, 0}, []uint64{1, 128, 0}, true)
	all(t, []byte{0xac, 0x82, 0, 7}, []uint64{300, 7}, true)
	all(t, append(ten(255, 1), ten(255, 0)...), []uint64{math.MaxUint64, 1<<63 - 1}, true)
	var b []byte
	var l []uint64
	for _, n := range numbers() {
		b = append(b, varint.Put(n)...)
		l = append(l, n)
	}
	all(t, b, l, true)
}

// P1.2: nothing comes of numbers ahead of what is none.
func TestAllOfWhatIsNone(t *testing.T) {
	all(t, []byte{0x80}, nil, false)
	all(t, []byte{1, 0x80}, nil, false)
	all(t, []byte{1, 2, 3, 255, 255}, nil, false)
	all(t, ten(255, 2), nil, false)
	all(t, append([]byte{7}, ten(255, 2)...), nil, false)
	all(t, append(ten(255, 2), 7), nil, false)
	all(t, append(ten(0x80, 0x80), 0), nil, false)
}

// P1.3: what is put is got, whatever stands behind it.
func TestPutIsGot(t *testing.T) {
	behind := [][]byte{nil, {0}, {1}, {127}, {128}, {255}, {0, 0}, {128, 1}, ten(255, 1), ten(255, 255)}
	for _, n := range numbers() {
		for _, tail := range behind {
			b := append(varint.Put(n), tail...)
			same(t, b, n, varint.Size(n))
		}
	}
}

// P1.3: no number has fewer bytes than those that are put.
func TestNoNumberIsShorterThanPut(t *testing.T) {
	eachString([]byte{0, 1, 2, 63, 64, 127, 128, 129, 255}, 5, func(b []byte) {
		n, size := varint.Get(b)
		if size == 0 {
			return
		}
		if short := varint.Put(n); len(short) > size {
			t.Fatalf("% x has %d bytes, Put(%d) % x", b, size, n, short)
		}
	})
	for _, k := range known {
		for size := 1; size < varint.Size(k.n); size++ {
			b := slices.Clone(k.b[:size])
			b[size-1] %= 128
			if n, _ := varint.Get(b); n == k.n {
				t.Fatalf("% x is %d, and Put has more bytes", b, n)
			}
		}
	}
}

// Rule 3: arguments stay as they are, and answers share nothing.
func TestNothingIsSharedOrChanged(t *testing.T) {
	b := []byte{0xac, 2, 0x80, 1}
	varint.Get(b)
	l, _ := varint.All(b)
	if !bytes.Equal(b, []byte{0xac, 2, 0x80, 1}) {
		t.Fatalf("changed: % x", b)
	}
	b[0], b[1] = 0, 0
	if again, _ := varint.All([]byte{0xac, 2, 0x80, 1}); !slices.Equal(l, again) {
		t.Fatalf("kept: %v", l)
	}
	p := varint.Put(300)
	p[0] = 0
	if q := varint.Put(300); q[0] != 0xac {
		t.Fatalf("shared: % x", q)
	}
}
