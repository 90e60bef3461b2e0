package raw_test

import (
	"bytes"
	"math"
	"math/rand"
	"slices"
	"strings"
	"testing"

	"ecdysis/api"
	"ecdysis/raw"
)

// digits is a number as bytes of seven bits, by the words of chapter 1, of at least so many bytes.
func digits(n uint64, size int) []byte {
	if n < 128 && size < 2 {
		return []byte{byte(n)}
	}
	return append([]byte{byte(n%128 + 128)}, digits(n/128, size-1)...)
}

// low is a number's lowest bytes, the lowest one first.
func low(n uint64, size int) []byte {
	var b []byte
	for range size {
		b = append(b, byte(n%256))
		n /= 256
	}
	return b
}

// long is a field's bytes by the chapters' words, its numbers of seven bits being of at least so many bytes.
func long(x api.Raw, size int) []byte {
	b := digits(uint64(x.Num)*8+uint64(x.Wire), size)
	switch x.Wire {
	case 0:
		return append(b, digits(x.N, size)...)
	case 1:
		return append(b, low(x.N, 8)...)
	case 5:
		return append(b, low(x.N, 4)...)
	}
	return slices.Concat(b, digits(uint64(len(x.S)), size), []byte(x.S))
}

// short is the fields' bytes, no more than there need be.
func short(l ...api.Raw) []byte {
	var b []byte
	for _, x := range l {
		b = append(b, long(x, 1)...)
	}
	return b
}

// placed is a field and the place at which it begins.
type placed struct {
	at int
	x  api.Raw
}

// number is the number that b begins with, by the words of chapter 1, and how many bytes it has: 0 if there is none.
func number(b []byte) (uint64, int) {
	end := slices.IndexFunc(b, func(c byte) bool { return c < 128 })
	if end < 0 || end > 9 || end == 9 && b[9] > 1 {
		return 0, 0
	}
	var n, worth uint64 = 0, 1
	for _, c := range b[:end+1] {
		n += uint64(c%128) * worth
		worth *= 128
	}
	return n, end + 1
}

// first is the field that b begins with, by the chapters' words, and how many bytes it has: 0 if there is none.
func first(b []byte) (api.Raw, int) {
	u, size := number(b)
	if size == 0 || u < 8 || u >= 1<<32 {
		return api.Raw{}, 0
	}
	x := api.Raw{Num: int(u / 8), Wire: int(u % 8)}
	rest := b[size:]
	switch x.Wire {
	case 0:
		n, s := number(rest)
		if s == 0 {
			return api.Raw{}, 0
		}
		x.N = n
		return x, size + s
	case 1, 5:
		wide := 8
		if x.Wire == 5 {
			wide = 4
		}
		if len(rest) < wide {
			return api.Raw{}, 0
		}
		for _, c := range slices.Backward(rest[:wide]) {
			x.N = 256*x.N + uint64(c)
		}
		return x, size + wide
	case 2:
		n, s := number(rest)
		if s == 0 || n > uint64(len(rest)-s) {
			return api.Raw{}, 0
		}
		x.S = string(rest[s : s+int(n)])
		return x, size + s + int(n)
	}
	return api.Raw{}, 0
}

// wanted is the fields of b up to the first that is none, and tells whether they are all of b.
func wanted(b []byte) ([]placed, bool) {
	var l []placed
	for at := 0; at < len(b); {
		x, size := first(b[at:])
		if size == 0 {
			return l, false
		}
		l = append(l, placed{at, x})
		at += size
	}
	return l, true
}

// bare is the fields without their places.
func bare(l []placed) []api.Raw {
	var out []api.Raw
	for _, p := range l {
		out = append(out, p.x)
	}
	return out
}

// each is what Each tells till so many fields were told.
func each(b []byte, most int) []placed {
	var l []placed
	for at, x := range raw.Each(b) {
		l = append(l, placed{at, x})
		if len(l) == most {
			break
		}
	}
	return l
}

// gives tells of what Get answers otherwise; Each then tells the same fields.
func gives(t *testing.T, b []byte, want ...api.Raw) {
	t.Helper()
	if l, e := raw.Get(b); e != api.OK || !slices.Equal(l, want) {
		t.Errorf("Get of % x: %v, %d; wanted %v", b, l, e, want)
	}
	if l := bare(each(b, -1)); !slices.Equal(l, want) {
		t.Errorf("Each of % x: %v; wanted %v", b, l, want)
	}
}

// bad tells if Get finds that b is fields; Each then tells those ahead of what is none.
func bad(t *testing.T, b []byte, ahead ...api.Raw) {
	t.Helper()
	if l, e := raw.Get(b); e != api.ErrBad || len(l) != 0 {
		t.Errorf("Get of % x: %v, %d", b, l, e)
	}
	if l := bare(each(b, -1)); !slices.Equal(l, ahead) {
		t.Errorf("Each of % x: %v; wanted %v", b, l, ahead)
	}
}

// puts tells of what Put answers otherwise.
func puts(t *testing.T, l []api.Raw, want ...byte) {
	t.Helper()
	if b, e := raw.Put(l); e != api.OK || !bytes.Equal(b, want) {
		t.Errorf("Put of %v: % x, %d; wanted % x", l, b, e, want)
	}
}

// known is fields and their bytes, worked out by hand.
var known = []struct {
	x api.Raw
	b []byte
}{
	{api.Raw{Num: 1, Wire: api.WireVarint}, []byte{0x08, 0}},
	{api.Raw{Num: 1, Wire: api.WireVarint, N: 127}, []byte{0x08, 0x7f}},
	{api.Raw{Num: 1, Wire: api.WireVarint, N: 300}, []byte{0x08, 0xac, 2}},
	{api.Raw{Num: 1, Wire: api.WireVarint, N: 18446744073709551615}, []byte{0x08, 0xff, 0xff, 0xff, 0xff, 0xff, 0xff, 0xff, 0xff, 0xff, 1}},
	{api.Raw{Num: 536870911, Wire: api.WireVarint, N: 1}, []byte{0xf8, 0xff, 0xff, 0xff, 0x0f, 1}},
	{api.Raw{Num: 1, Wire: api.Wire64}, []byte{0x09, 0, 0, 0, 0, 0, 0, 0, 0}},
	{api.Raw{Num: 2, Wire: api.Wire64, N: 1<<63 + 258}, []byte{0x11, 2, 1, 0, 0, 0, 0, 0, 0x80}},
	{api.Raw{Num: 1, Wire: api.Wire64, N: 18446744073709551615}, []byte{0x09, 0xff, 0xff, 0xff, 0xff, 0xff, 0xff, 0xff, 0xff}},
	{api.Raw{Num: 536870911, Wire: api.Wire64, N: 1}, []byte{0xf9, 0xff, 0xff, 0xff, 0x0f, 1, 0, 0, 0, 0, 0, 0, 0}},
	{api.Raw{Num: 1, Wire: api.WireBytes}, []byte{0x0a, 0}},
	{api.Raw{Num: 2, Wire: api.WireBytes, S: "a\x00\xff"}, []byte{0x12, 3, 'a', 0, 0xff}},
	{api.Raw{Num: 16, Wire: api.WireBytes, S: "é"}, []byte{0x82, 1, 2, 0xc3, 0xa9}},
	{api.Raw{Num: 536870911, Wire: api.WireBytes, S: "a"}, []byte{0xfa, 0xff, 0xff, 0xff, 0x0f, 1, 'a'}},
	{api.Raw{Num: 3, Wire: api.WireBytes, S: strings.Repeat("z", 127)}, slices.Concat([]byte{0x1a, 0x7f}, bytes.Repeat([]byte{'z'}, 127))},
	{api.Raw{Num: 3, Wire: api.WireBytes, S: strings.Repeat("z", 128)}, slices.Concat([]byte{0x1a, 0x80, 1}, bytes.Repeat([]byte{'z'}, 128))},
	{api.Raw{Num: 1, Wire: api.Wire32}, []byte{0x0d, 0, 0, 0, 0}},
	{api.Raw{Num: 3, Wire: api.Wire32, N: 4}, []byte{0x1d, 4, 0, 0, 0}},
	{api.Raw{Num: 1, Wire: api.Wire32, N: 4294967295}, []byte{0x0d, 0xff, 0xff, 0xff, 0xff}},
	{api.Raw{Num: 536870911, Wire: api.Wire32, N: 1}, []byte{0xfd, 0xff, 0xff, 0xff, 0x0f, 1, 0, 0, 0}},
	// A schema's field may not have these numbers, but one on the wire may.
	{api.Raw{Num: 19000, Wire: api.WireVarint, N: 1}, []byte{0xc0, 0xa3, 0x09, 1}},
	{api.Raw{Num: 19999, Wire: api.WireVarint, N: 1}, []byte{0xf8, 0xe1, 0x09, 1}},
}

// wrong is fields that are none.
var wrong = []api.Raw{
	{},
	{Num: 0, Wire: api.WireVarint, N: 1},
	{Num: 0, Wire: api.Wire64, N: 1},
	{Num: 0, Wire: api.WireBytes, S: "a"},
	{Num: 0, Wire: api.Wire32, N: 1},
	{Num: -1, Wire: api.WireVarint},
	{Num: -1, Wire: api.WireBytes},
	{Num: math.MinInt, Wire: api.WireVarint},
	{Num: 536870912, Wire: api.WireVarint},
	{Num: 536870912, Wire: api.Wire64},
	{Num: 536870912, Wire: api.WireBytes},
	{Num: 536870912, Wire: api.Wire32},
	{Num: 1<<32 + 1, Wire: api.WireVarint},
	{Num: 1<<61 + 1, Wire: api.WireVarint},
	{Num: math.MaxInt, Wire: api.WireVarint},
	{Num: 1, Wire: -1},
	{Num: 1, Wire: 3},
	{Num: 1, Wire: 4},
	{Num: 1, Wire: 6},
	{Num: 1, Wire: 7},
	{Num: 1, Wire: 8},
	{Num: 1, Wire: 10},
	{Num: 1, Wire: math.MinInt},
	{Num: 1, Wire: math.MaxInt},
	{Num: 1, Wire: 1 << 32},
	{Num: 1, Wire: api.WireBytes, N: 1},
	{Num: 1, Wire: api.WireBytes, N: 1, S: "a"},
	{Num: 1, Wire: api.WireBytes, N: 1 << 63},
	{Num: 1, Wire: api.WireVarint, S: "a"},
	{Num: 1, Wire: api.WireVarint, N: 1, S: "\x00"},
	{Num: 1, Wire: api.Wire64, S: "a"},
	{Num: 1, Wire: api.Wire64, N: 1, S: "a"},
	{Num: 1, Wire: api.Wire32, S: "a"},
	{Num: 1, Wire: api.Wire32, N: 1, S: "a"},
	{Num: 1, Wire: api.Wire32, N: 4294967296},
	{Num: 1, Wire: api.Wire32, N: 1<<63 + 1},
	{Num: 1, Wire: api.Wire32, N: math.MaxUint64},
}

// none is bytes that begin with no field, and yet there is something.
var none = [][]byte{
	// The tag alone, of each wire type.
	{0x08}, {0x09}, {0x0a}, {0x0d},
	// They end within a tag.
	{0x88},
	{0xf8, 0xff, 0xff, 0xff},
	// The tag is no number.
	{0x80, 0x80, 0x80, 0x80, 0x80, 0x80, 0x80, 0x80, 0x80, 2, 1},
	{0x88, 0x80, 0x80, 0x80, 0x80, 0x80, 0x80, 0x80, 0x80, 0x80, 0},
	// The field 0, of each wire type.
	{0x00, 1},
	{0x80, 0, 1},
	{0x01, 1, 2, 3, 4, 5, 6, 7, 8},
	{0x02, 0},
	{0x05, 1, 2, 3, 4},
	// Wire types that are none: 3 and 4 (which other programs took for groups), 6 and 7.
	{0x0b}, {0x0c}, {0x0e}, {0x0f},
	{0x0b, 0x0c},
	// The fields 2^29, 2^29 + 1 and 2^32 + 1.
	{0x80, 0x80, 0x80, 0x80, 0x10, 1},
	{0x88, 0x80, 0x80, 0x80, 0x10, 1},
	{0x88, 0x80, 0x80, 0x80, 0x80, 1, 1},
	// They end within a number.
	{0x08, 0x80},
	{0x08, 0xff, 0xff, 0xff, 0xff, 0xff, 0xff, 0xff, 0xff, 0xff},
	// The number is none: its tenth byte is above 1, or it has eleven.
	{0x08, 0xff, 0xff, 0xff, 0xff, 0xff, 0xff, 0xff, 0xff, 0xff, 2},
	{0x08, 0x80, 0x80, 0x80, 0x80, 0x80, 0x80, 0x80, 0x80, 0x80, 0x80, 0},
	// They end within eight bytes, and within four.
	{0x09, 1},
	{0x09, 1, 2, 3, 4, 5, 6, 7},
	{0x0d, 1},
	{0x0d, 1, 2, 3},
	// They end within how long a text is, and within a text.
	{0x0a, 0x80},
	{0x0a, 1},
	{0x0a, 3, 'a', 'b'},
	slices.Concat([]byte{0x0a, 0x7f}, make([]byte, 126)),
	slices.Concat([]byte{0x0a, 0x80, 1}, make([]byte, 127)),
	// The text has 2^31, 2^63 - 1, 2^63, 2^64 - 12, 2^64 - 11 and 2^64 - 1 bytes.
	{0x0a, 0x80, 0x80, 0x80, 0x80, 0x08, 'a'},
	{0x0a, 0xff, 0xff, 0xff, 0xff, 0xff, 0xff, 0xff, 0xff, 0x7f, 'a'},
	{0x0a, 0x80, 0x80, 0x80, 0x80, 0x80, 0x80, 0x80, 0x80, 0x80, 1, 'a'},
	{0x0a, 0xf4, 0xff, 0xff, 0xff, 0xff, 0xff, 0xff, 0xff, 0xff, 1, 'a'},
	{0x0a, 0xf5, 0xff, 0xff, 0xff, 0xff, 0xff, 0xff, 0xff, 0xff, 1, 'a'},
	{0x0a, 0xff, 0xff, 0xff, 0xff, 0xff, 0xff, 0xff, 0xff, 0xff, 1, 'a'},
	// How long it is is no number.
	{0x0a, 0xff, 0xff, 0xff, 0xff, 0xff, 0xff, 0xff, 0xff, 0xff, 2, 'a', 0},
}

// all is the known fields, one behind the other.
func all() []api.Raw {
	var l []api.Raw
	for _, k := range known {
		l = append(l, k.x)
	}
	return l
}

// P7.1
func TestRight(t *testing.T) {
	for _, k := range known {
		if !raw.Right(k.x) {
			t.Errorf("not right: %v", k.x)
		}
	}
	for _, x := range wrong {
		if raw.Right(x) {
			t.Errorf("right: %v", x)
		}
	}
}

// P7.1: each thing that a field may be, with each other.
func TestRightByTheWords(t *testing.T) {
	nums := []int{math.MinInt, -1, 0, 1, 2, 18999, 19000, 19999, 20000, 536870911, 536870912, math.MaxInt}
	ns := []uint64{0, 1, 1<<31 - 1, 1 << 31, 1<<32 - 1, 1 << 32, 1<<32 + 1, 1 << 63, math.MaxUint64}
	for _, num := range nums {
		for wire := -10; wire <= 10; wire++ {
			for _, n := range ns {
				for _, s := range []string{"", "a", "\x00", strings.Repeat("z", 128)} {
					text := wire == 2 && n == 0
					whole := s == "" && (wire == 0 || wire == 1 || wire == 5 && n < 4294967296)
					want := num >= 1 && num <= 536870911 && (text || whole)
					if x := (api.Raw{Num: num, Wire: wire, N: n, S: s}); raw.Right(x) != want {
						t.Errorf("Right of %v isn't %t", x, want)
					}
				}
			}
		}
	}
}

// P7.1
func TestSame(t *testing.T) {
	a := api.Raw{Num: 1, N: 1}
	b := api.Raw{Num: 2, Wire: 2, S: "b"}
	lists := [][]api.Raw{
		nil,
		{a}, {b}, {a, a}, {a, b}, {b, a}, {b, b}, {a, b, a}, {a, b, b}, {a, a, b},
		{{}}, {{}, {}}, {a, {}}, {{}, a},
		{{Num: 2, N: 1}}, {{Num: 1, Wire: 1, N: 1}}, {{Num: 1, N: 2}}, {{Num: 1, N: 1, S: "b"}},
		{{Num: 2, Wire: 2, S: "c"}}, {{Num: 2, Wire: 2, S: "bb"}}, {{Num: 2, Wire: 2}},
		{{Num: -1, Wire: 9, N: 1, S: "b"}},
	}
	for i, l := range lists {
		for j, m := range lists {
			if raw.Same(slices.Clone(l), slices.Clone(m)) != (i == j) {
				t.Errorf("Same of %v and %v isn't %t", l, m, i == j)
			}
		}
	}
	if !raw.Same(nil, []api.Raw{}) || !raw.Same([]api.Raw{}, nil) || !raw.Same(nil, nil) {
		t.Error("nil and an empty list aren't the same")
	}
}

// P7.2
func TestExample(t *testing.T) {
	b := []byte{0x08, 1, 0x12, 1, 'a'}
	l := []api.Raw{{Num: 1, Wire: 0, N: 1}, {Num: 2, Wire: 2, S: "a"}}
	gives(t, b, l...)
	puts(t, l, b...)
}

// P7.2, P7.4
func TestKnownFields(t *testing.T) {
	var b []byte
	for _, k := range known {
		gives(t, k.b, k.x)
		puts(t, []api.Raw{k.x}, k.b...)
		b = append(b, k.b...)
	}
	gives(t, b, all()...)
	puts(t, all(), b...)
}

// P7.2
func TestNothing(t *testing.T) {
	gives(t, nil)
	gives(t, []byte{})
	puts(t, nil)
	puts(t, []api.Raw{})
}

// P7.2: fields of one number stand as they stood, also with unlike wire types.
func TestOneNumberMoreThanOnce(t *testing.T) {
	l := []api.Raw{
		{Num: 3, Wire: 0, N: 2},
		{Num: 3, Wire: 0, N: 1},
		{Num: 1, Wire: 2, S: "b"},
		{Num: 3, Wire: 0, N: 1},
		{Num: 3, Wire: 5, N: 1},
		{Num: 3, Wire: 2, S: ""},
		{Num: 3, Wire: 1, N: 1},
		{Num: 1, Wire: 2, S: "a"},
		{Num: 2, Wire: 0},
	}
	b := []byte{
		0x18, 2,
		0x18, 1,
		0x0a, 1, 'b',
		0x18, 1,
		0x1d, 1, 0, 0, 0,
		0x1a, 0,
		0x19, 1, 0, 0, 0, 0, 0, 0, 0,
		0x0a, 1, 'a',
		0x10, 0,
	}
	gives(t, b, l...)
	puts(t, l, b...)
}

// P7.2: the message that a text may be is not looked into.
func TestMessagesWithin(t *testing.T) {
	gives(t, []byte{0x0a, 3, 0x0a, 9, 0x0b}, api.Raw{Num: 1, Wire: 2, S: "\x0a\x09\x0b"})
}

// P7.2, P7.4: tags, numbers and lengths that have more bytes than they need; what is put then has fewer.
func TestMoreBytesThanNeeded(t *testing.T) {
	gives(t, []byte{0x88, 0, 0xac, 0x82, 0}, api.Raw{Num: 1, N: 300})
	gives(t, []byte{0x8a, 0x80, 0x80, 0, 0x81, 0x80, 0, 'a'}, api.Raw{Num: 1, Wire: 2, S: "a"})
	gives(t, []byte{0x8a, 0x80, 0x80, 0x80, 0x80, 0x80, 0x80, 0x80, 0x80, 0, 0x80, 0}, api.Raw{Num: 1, Wire: 2})
	for size := 1; size <= 10; size++ {
		var b []byte
		for _, k := range known {
			f := long(k.x, size)
			gives(t, f, k.x)
			b = append(b, f...)
		}
		gives(t, b, all()...)
		l, _ := raw.Get(b)
		if back, e := raw.Put(l); e != api.OK || len(back) > len(b) || size > 5 && len(back) == len(b) {
			t.Errorf("%d bytes come to %d, %d", len(b), len(back), e)
		}
	}
}

// P7.2
func TestPutOfWrongFields(t *testing.T) {
	for _, x := range wrong {
		for at := range len(known) + 1 {
			l := slices.Insert(all(), at, x)
			if b, e := raw.Put(l); e != api.ErrArg || len(b) != 0 {
				t.Errorf("Put with %v at %d: % x, %d", x, at, b, e)
			}
		}
		if b, e := raw.Put([]api.Raw{x}); e != api.ErrArg || len(b) != 0 {
			t.Errorf("Put of %v: % x, %d", x, b, e)
		}
	}
}

// P7.2, P7.3: bytes that begin with none, alone, and behind fields that are right.
func TestGetOfWrongBytes(t *testing.T) {
	l := all()
	for _, b := range none {
		bad(t, b)
		for i, k := range known {
			bad(t, slices.Concat(k.b, b), k.x)
			bad(t, slices.Concat(short(l[:i]...), b), l[:i]...)
		}
		bad(t, slices.Concat(short(l...), b), l...)
	}
}

// P7.2, P7.3: what is wrong stays wrong, whatever stands behind it; so it is not gone by.
func TestWrongTagsAheadOfRightFields(t *testing.T) {
	behind := short(all()...)
	for _, b := range [][]byte{
		{0x00}, {0x00, 1}, {0x01}, {0x02, 0}, {0x05},
		{0x0b}, {0x0c}, {0x0e}, {0x0f},
		{0x80, 0x80, 0x80, 0x80, 0x10, 1},
		{0x80, 0x80, 0x80, 0x80, 0x80, 0x80, 0x80, 0x80, 0x80, 2},
		{0x08, 0xff, 0xff, 0xff, 0xff, 0xff, 0xff, 0xff, 0xff, 0xff, 2},
		{0x0a, 0xff, 0xff, 0xff, 0xff, 0xff, 0xff, 0xff, 0xff, 0xff, 1},
	} {
		bad(t, slices.Concat(b, behind))
		bad(t, slices.Concat([]byte{0x08, 7}, b, behind), api.Raw{Num: 1, N: 7})
	}
}

// P7.2, P7.3: bytes that are cut off are fields just where one ends.
func TestCutOff(t *testing.T) {
	for _, size := range []int{1, 3} {
		var b []byte
		for i, k := range known {
			f := long(k.x, size)
			gives(t, b, all()[:i]...)
			for cut := 1; cut < len(f); cut++ {
				bad(t, slices.Concat(b, f[:cut]), all()[:i]...)
			}
			b = append(b, f...)
		}
		gives(t, b, all()...)
	}
}

// P7.3
func TestPlacesOfEach(t *testing.T) {
	b := []byte{
		0x08, 0xac, 2,
		0x12, 2, 'a', 'b',
		0x12, 0,
		0x1d, 4, 0, 0, 0,
		0x88, 0x80, 0, 0x81, 0,
		0x21, 5, 0, 0, 0, 0, 0, 0, 0,
		0x08, 0,
	}
	want := []placed{
		{0, api.Raw{Num: 1, N: 300}},
		{3, api.Raw{Num: 2, Wire: 2, S: "ab"}},
		{7, api.Raw{Num: 2, Wire: 2}},
		{9, api.Raw{Num: 3, Wire: 5, N: 4}},
		{14, api.Raw{Num: 1, N: 1}},
		{19, api.Raw{Num: 4, Wire: 1, N: 5}},
		{28, api.Raw{Num: 1}},
	}
	if l := each(b, -1); !slices.Equal(l, want) {
		t.Errorf("%v; wanted %v", l, want)
	}
	// What is none is told by none, and what stands behind it isn't either.
	if l := each(append(slices.Clone(b), 0x0b, 0x08, 1), -1); !slices.Equal(l, want) {
		t.Errorf("%v; wanted %v", l, want)
	}
}

// P7.3: it is told to stop at each field there is; then no more is told.
func TestEachIsToldToStop(t *testing.T) {
	for _, tail := range [][]byte{nil, {0x0b}, {0x08}} {
		b := append(short(all()...), tail...)
		want, _ := wanted(b)
		if len(want) != len(known) {
			t.Fatal(len(want))
		}
		for most := 1; most <= len(want); most++ {
			var l []placed
			raw.Each(b)(func(at int, x api.Raw) bool {
				l = append(l, placed{at, x})
				return len(l) != most
			})
			if !slices.Equal(l, want[:most]) || !slices.Equal(each(b, most), want[:most]) {
				t.Errorf("stopped at field %d: %v; wanted %v", most-1, l, want[:most])
			}
		}
		if l := each(b, -1); !slices.Equal(l, want) {
			t.Errorf("never stopped: %v; wanted %v", l, want)
		}
	}
}

// P7.3
func TestEachOfNothing(t *testing.T) {
	for _, b := range [][]byte{nil, {}, {0x0b}, {0x08}, {0}} {
		for at, x := range raw.Each(b) {
			t.Errorf("Each of % x: %d, %v", b, at, x)
		}
	}
}

// P7.3, rule 4: one answer of Each can be gone through again, also while it is gone through, and from the first field on.
func TestEachIsGoneThroughAgain(t *testing.T) {
	b := short(all()...)
	want, _ := wanted(b)
	seq := raw.Each(b)
	for range seq {
		break
	}
	for range 2 {
		var l []placed
		for at, x := range seq {
			l = append(l, placed{at, x})
			var in []placed
			for at, x := range seq {
				in = append(in, placed{at, x})
				if len(in) == len(l) {
					break
				}
			}
			if !slices.Equal(in, want[:len(l)]) {
				t.Errorf("within: %v; wanted %v", in, want[:len(l)])
			}
		}
		if !slices.Equal(l, want) {
			t.Errorf("%v; wanted %v", l, want)
		}
	}
}

// Rule 3: what is handed in is neither changed nor kept, and what is answered shares nothing.
func TestNothingIsShared(t *testing.T) {
	b := []byte{0x0a, 1, 'a', 0x12, 1, 'b', 0x18, 3}
	want := []api.Raw{{Num: 1, Wire: 2, S: "a"}, {Num: 2, Wire: 2, S: "b"}, {Num: 3, N: 3}}
	was := slices.Clone(b)
	seq := raw.Each(b)
	l, _ := raw.Get(b)
	c, _ := raw.Put(l)
	d, _ := raw.Put(l)
	if !bytes.Equal(b, was) || !slices.Equal(l, want) {
		t.Errorf("changed: % x, %v", b, l)
	}
	clear(b)
	if !slices.Equal(l, want) {
		t.Errorf("Get keeps: %v", l)
	}
	l[0] = api.Raw{}
	if !bytes.Equal(c, was) {
		t.Errorf("Put keeps: % x", c)
	}
	clear(c)
	if !bytes.Equal(d, was) {
		t.Errorf("two answers of Put share: % x", d)
	}
	var m []api.Raw
	for _, x := range seq {
		m = append(m, x)
	}
	if !slices.Equal(m, want) {
		t.Errorf("Each keeps: %v", m)
	}
	// What stands behind the bytes in their list is none of them.
	more := []byte{0x08, 1, 0x12, 1, 'a'}
	gives(t, more[:2:5], api.Raw{Num: 1, N: 1})
	bad(t, more[:4:5], api.Raw{Num: 1, N: 1})
}

// Rule 3: bytes that are changed while Each is gone through.
func TestEachOfBytesThatAreChanged(t *testing.T) {
	b := short(all()...)
	want, _ := wanted(b)
	var l []placed
	for at, x := range raw.Each(b) {
		l = append(l, placed{at, x})
		clear(b)
	}
	if !slices.Equal(l, want) {
		t.Errorf("%v; wanted %v", l, want)
	}
}

// agrees tells of bytes of which Get, Each or Put of what is got is not what the words say; it tells whether b is fields.
func agrees(t *testing.T, b []byte) bool {
	t.Helper()
	want, ok := wanted(b)
	if l := each(b, -1); !slices.Equal(l, want) {
		t.Fatalf("Each of % x: %v; wanted %v", b, l, want)
	}
	l, e := raw.Get(b)
	if !ok {
		if e != api.ErrBad || len(l) != 0 {
			t.Fatalf("Get of % x: %v, %d; wanted ErrBad", b, l, e)
		}
		return false
	}
	if e != api.OK || !slices.Equal(l, bare(want)) {
		t.Fatalf("Get of % x: %v, %d; wanted %v", b, l, e, want)
	}
	if slices.ContainsFunc(l, func(x api.Raw) bool { return !raw.Right(x) }) {
		t.Fatalf("Get of % x: %v: one is not right", b, l)
	}
	back, e := raw.Put(l)
	if e != api.OK || len(back) > len(b) || !bytes.Equal(back, short(l...)) {
		t.Fatalf("Get and Put of % x: % x, %d", b, back, e)
	}
	return true
}

// P7.2, P7.3, P7.4: all bytes of at most two, and all of up to six of a few kinds.
func TestAllShortBytes(t *testing.T) {
	agrees(t, nil)
	for c := range 256 {
		agrees(t, []byte{byte(c)})
		for d := range 256 {
			agrees(t, []byte{byte(c), byte(d)})
		}
	}
	right := 0
	var grow func(b []byte)
	grow = func(b []byte) {
		if agrees(t, b) {
			right++
		}
		if len(b) == 6 {
			return
		}
		for _, c := range []byte{0, 1, 2, 0x08, 0x0a, 0x0b, 0x0d, 0x80} {
			grow(append(slices.Clone(b), c))
		}
	}
	grow(nil)
	if right < 1000 {
		t.Errorf("the material is poor: %d right ones", right)
	}
}

// drawn is a field, a right one.
func drawn(r *rand.Rand) api.Raw {
	x := api.Raw{Num: min(1+r.Intn(1<<r.Intn(30)), api.MaxNum)}
	n := r.Uint64() >> r.Intn(64)
	switch r.Intn(4) {
	case 0:
		x.Wire, x.N = api.WireVarint, n
	case 1:
		x.Wire, x.N = api.Wire64, n
	case 2:
		x.Wire, x.N = api.Wire32, n%(1<<32)
	default:
		x.Wire, x.S = api.WireBytes, string(low(n, r.Intn(9)))+strings.Repeat("z", r.Intn(2)*r.Intn(200))
	}
	return x
}

// P7.4, P7.2: what is put is what the words say, and is got.
func TestWhatIsPutIsGot(t *testing.T) {
	r := rand.New(rand.NewSource(7))
	for range 5000 {
		var l []api.Raw
		for range r.Intn(9) {
			l = append(l, drawn(r))
		}
		puts(t, l, short(l...)...)
		b, _ := raw.Put(l)
		if m, e := raw.Get(b); e != api.OK || !raw.Same(l, m) || !slices.Equal(l, m) {
			t.Fatalf("%v: put and got: %v, %d", l, m, e)
		}
	}
}

// P7.2, P7.3, P7.4: fields with numbers of more bytes than they need, some of them spoilt.
func TestByTheWords(t *testing.T) {
	r := rand.New(rand.NewSource(8))
	right := 0
	const tries = 30000
	for range tries {
		var b []byte
		for range r.Intn(6) {
			b = append(b, long(drawn(r), 1+r.Intn(1+r.Intn(10)))...)
		}
		if len(b) > 0 && r.Intn(2) == 0 {
			b[r.Intn(len(b))] ^= 1 << r.Intn(8)
		}
		if r.Intn(4) == 0 {
			b = b[:r.Intn(len(b)+1)]
		}
		if agrees(t, b) {
			right++
		}
	}
	if right < tries/10 || right > tries*9/10 {
		t.Errorf("the material is poor: %d right ones", right)
	}
}

// P7.2, P7.3: many fields, and one that is long.
func TestMuch(t *testing.T) {
	var l []api.Raw
	for i := range 1 << 17 {
		l = append(l, api.Raw{Num: 1 + i%20, N: uint64(i)})
	}
	l = append(l, api.Raw{Num: 1, Wire: 2, S: strings.Repeat("z", 1<<20)})
	b, e := raw.Put(l)
	if e != api.OK || !bytes.Equal(b, short(l...)) {
		t.Fatal("Put:", len(b), e)
	}
	if m, e := raw.Get(b); e != api.OK || !slices.Equal(l, m) {
		t.Fatal("Get:", len(m), e)
	}
	if m, e := raw.Get(b[:len(b)-1]); e != api.ErrBad || len(m) != 0 {
		t.Fatal("Get:", len(m), e)
	}
	if m := each(b[:len(b)-1], -1); len(m) != len(l)-1 {
		t.Fatal("Each:", len(m))
	}
}
