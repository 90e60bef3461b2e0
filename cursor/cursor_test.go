package cursor_test

import (
	"bytes"
	"math"
	"math/rand"
	"slices"
	"testing"

	"ecdysis/api"
	"ecdysis/cursor"
	"ecdysis/fix"
	"ecdysis/tag"
	"ecdysis/varint"
)

// join is pieces one behind the other.
func join(pieces ...[]byte) []byte {
	return slices.Concat(pieces...)
}

// lend is b with its length ahead of it.
func lend(b []byte) []byte {
	return join(varint.Put(uint64(len(b))), b)
}

// top is the greatest number of 64 bits, as ten bytes.
var top = []byte{0xff, 0xff, 0xff, 0xff, 0xff, 0xff, 0xff, 0xff, 0xff, 1}

// calls is everything that reads or moves; each tells whether it answered something else than the zero value.
var calls = []struct {
	name string
	call func(c *cursor.Cursor) bool
}{
	{"Varint", func(c *cursor.Cursor) bool { return c.Varint() != 0 }},
	{"Fixed4", func(c *cursor.Cursor) bool { return c.Fixed4() != 0 }},
	{"Fixed8", func(c *cursor.Cursor) bool { return c.Fixed8() != 0 }},
	{"Text", func(c *cursor.Cursor) bool { return c.Text() != "" }},
	{"Tag", func(c *cursor.Cursor) bool { num, wire := c.Tag(); return num != 0 || wire != 0 }},
	{"Open", (*cursor.Cursor).Open},
	{"Close", (*cursor.Cursor).Close},
	{"More", (*cursor.Cursor).More},
	{"Ok", (*cursor.Cursor).Ok},
	{"At", func(c *cursor.Cursor) bool { return c.At() != 0 }},
	{"Deep", func(c *cursor.Cursor) bool { return c.Deep() != 0 }},
}

// readers is the calls that read, by their names, as the call that fails.
var readers = calls[:6]

// dead tells of each call that answers something else than the zero value, twice over and in both directions: nothing changes any more.
func dead(t *testing.T, what string, c *cursor.Cursor) {
	t.Helper()
	for range 2 {
		for _, k := range calls {
			if k.call(c) {
				t.Errorf("%s: %s isn't the zero value", what, k.name)
			}
		}
		for _, k := range slices.Backward(calls) {
			if k.call(c) {
				t.Errorf("%s: %s isn't the zero value", what, k.name)
			}
		}
	}
}

// stands tells where a cursor that did not fail is.
func stands(t *testing.T, what string, c *cursor.Cursor, at, deep int, more bool) {
	t.Helper()
	if !c.Ok() || c.At() != at || c.Deep() != deep || c.More() != more {
		t.Fatalf("%s: Ok %t, At %d, Deep %d, More %t; wanted true, %d, %d, %t", what, c.Ok(), c.At(), c.Deep(), c.More(), at, deep, more)
	}
}

// P5.1
func TestOneBehindTheOther(t *testing.T) {
	c := cursor.From([]byte{
		0xac, 2, // 300
		2, 1, 0, 0, // 258
		1, 0, 0, 0, 0, 0, 0, 0x80, // 2^63 + 1
		3, 'a', 0, 0xff,
		0x15,    // number 2, wire type 5
		0xc2, 2, // number 40, wire type 2
		0,
	})
	stands(t, "at first", c, 0, 1, true)
	if n := c.Varint(); n != 300 {
		t.Fatal("Varint:", n)
	}
	stands(t, "behind Varint", c, 2, 1, true)
	if n := c.Fixed4(); n != 258 {
		t.Fatal("Fixed4:", n)
	}
	stands(t, "behind Fixed4", c, 6, 1, true)
	if n := c.Fixed8(); n != 1<<63+1 {
		t.Fatal("Fixed8:", n)
	}
	stands(t, "behind Fixed8", c, 14, 1, true)
	if s := c.Text(); s != "a\x00\xff" {
		t.Fatalf("Text: %q", s)
	}
	stands(t, "behind Text", c, 18, 1, true)
	if num, wire := c.Tag(); num != 2 || wire != 5 {
		t.Fatal("Tag:", num, wire)
	}
	stands(t, "behind a tag of one byte", c, 19, 1, true)
	if num, wire := c.Tag(); num != 40 || wire != 2 {
		t.Fatal("Tag:", num, wire)
	}
	stands(t, "behind a tag of two bytes", c, 21, 1, true)
	if n := c.Varint(); n != 0 {
		t.Fatal("Varint:", n)
	}
	stands(t, "at the end", c, 22, 1, false)
	if c.Close() {
		t.Fatal("Close with one frame")
	}
	stands(t, "behind Close with one frame", c, 22, 1, false)
}

// P5.1
func TestExample(t *testing.T) {
	c := cursor.From([]byte{2, 'a', 'b'})
	if s := c.Text(); s != "ab" {
		t.Errorf("%q", s)
	}
	stands(t, "behind it", c, 3, 1, false)
}

// P5.1
func TestGreatestNumbers(t *testing.T) {
	last, _ := tag.Of(api.MaxNum, api.Wire32)
	c := cursor.From(join(top, fix.Put4(math.MaxUint32), fix.Put8(math.MaxUint64), varint.Put(last)))
	if n := c.Varint(); n != math.MaxUint64 {
		t.Error("Varint:", n)
	}
	if n := c.Fixed4(); n != math.MaxUint32 {
		t.Error("Fixed4:", n)
	}
	if n := c.Fixed8(); n != math.MaxUint64 {
		t.Error("Fixed8:", n)
	}
	if num, wire := c.Tag(); num != api.MaxNum || wire != api.Wire32 {
		t.Error("Tag:", num, wire)
	}
	stands(t, "behind them", c, 27, 1, false)
}

// P5.1: a number may have more bytes than it needs (1), as a tag and a length too.
func TestLongForms(t *testing.T) {
	c := cursor.From([]byte{0x80, 0x80, 0, 0x88, 0x80, 0, 0x82, 0, 'a', 'b', 0x81, 0, 7})
	if n := c.Varint(); n != 0 || c.At() != 3 {
		t.Error("Varint:", n, c.At())
	}
	if num, wire := c.Tag(); num != 1 || wire != 0 || c.At() != 6 {
		t.Error("Tag:", num, wire, c.At())
	}
	if s := c.Text(); s != "ab" || c.At() != 10 {
		t.Errorf("Text: %q, %d", s, c.At())
	}
	if !c.Open() || c.At() != 12 || c.Varint() != 7 || !c.Close() {
		t.Error("Open")
	}
	stands(t, "behind them", c, 13, 1, false)
}

// P5.1
func TestNoBytes(t *testing.T) {
	for _, b := range [][]byte{nil, {}} {
		stands(t, "no bytes", cursor.From(b), 0, 1, false)
		c := cursor.From(b)
		if c.Close() {
			t.Error("Close with one frame")
		}
		stands(t, "no bytes, behind Close", c, 0, 1, false)
		for _, k := range readers {
			c := cursor.From(b)
			if k.call(c) {
				t.Errorf("%s of no bytes isn't the zero value", k.name)
			}
			dead(t, k.name+" of no bytes", c)
		}
	}
}

// P5.1: what is read is empty, or 0, and yet nothing failed.
func TestEmptyTextAndNumbersOfZero(t *testing.T) {
	c := cursor.From(make([]byte, 15))
	if s := c.Text(); s != "" {
		t.Errorf("%q", s)
	}
	stands(t, "behind an empty text", c, 1, 1, true)
	if c.Varint() != 0 {
		t.Error("Varint")
	}
	stands(t, "behind Varint", c, 2, 1, true)
	if c.Fixed4() != 0 {
		t.Error("Fixed4")
	}
	stands(t, "behind Fixed4", c, 6, 1, true)
	if c.Fixed8() != 0 {
		t.Error("Fixed8")
	}
	stands(t, "behind Fixed8", c, 14, 1, true)
	if s := c.Text(); s != "" {
		t.Errorf("%q", s)
	}
	stands(t, "behind an empty text at the end", c, 15, 1, false)
}

// fails is bytes that one of the calls can't read.
var fails = []struct {
	name string
	b    []byte
}{
	{"Varint", []byte{0x80}},
	{"Varint", []byte{0xff, 0xff, 0xff, 0xff, 0xff, 0xff, 0xff, 0xff, 0xff}},
	{"Varint", []byte{0xff, 0xff, 0xff, 0xff, 0xff, 0xff, 0xff, 0xff, 0xff, 2}},
	{"Varint", []byte{0x80, 0x80, 0x80, 0x80, 0x80, 0x80, 0x80, 0x80, 0x80, 0x80, 0}},
	{"Fixed4", []byte{1}},
	{"Fixed4", []byte{1, 2, 3}},
	{"Fixed8", []byte{1, 2, 3, 4}},
	{"Fixed8", []byte{1, 2, 3, 4, 5, 6, 7}},
	{"Text", []byte{1}},
	{"Text", []byte{3, 'a', 'b'}},
	{"Text", []byte{0x80, 'a', 'b'}},
	{"Text", join(varint.Put(1<<31), []byte{'a'})},
	{"Text", join(varint.Put(1<<32), []byte{'a'})},
	{"Text", join(varint.Put(1<<32+1), []byte{'a'})},
	{"Text", join(varint.Put(1<<63-1), []byte{'a'})},
	{"Text", join(varint.Put(1<<63), []byte{'a'})},
	{"Text", join(varint.Put(1<<63+1), []byte{'a'})},
	{"Text", join(varint.Put(1<<64-11), []byte{'a'})},
	{"Text", join(varint.Put(1<<64-10), []byte{'a'})},
	{"Text", join(varint.Put(1<<64-9), []byte{'a'})},
	{"Text", join(top, []byte{'a'})},
	{"Text", top},
	{"Tag", []byte{0x80}},
	{"Tag", []byte{0, 1}},    // number 0
	{"Tag", []byte{2, 1}},    // number 0
	{"Tag", []byte{0x0b, 1}}, // wire type 3
	{"Tag", []byte{0x0c, 1}}, // wire type 4
	{"Tag", []byte{0x0e, 1}}, // wire type 6
	{"Tag", []byte{0x0f, 1}}, // wire type 7
	{"Tag", join(varint.Put(1<<32), []byte{1})},
	{"Tag", join(varint.Put(1<<32+8), []byte{1})},
	{"Tag", join(varint.Put(1<<63+8), []byte{1})},
	{"Tag", join(top, []byte{1})},
	{"Open", []byte{1}},
	{"Open", []byte{3, 1, 2}},
	{"Open", []byte{0x81}},
	{"Open", join(varint.Put(1<<31), []byte{'a'})},
	{"Open", join(varint.Put(1<<32), []byte{'a'})},
	{"Open", join(varint.Put(1<<63-1), []byte{'a'})},
	{"Open", join(varint.Put(1<<63), []byte{'a'})},
	{"Open", join(varint.Put(1<<64-10), []byte{'a'})},
	{"Open", join(top, []byte{'a'})},
	{"Open", top},
}

// call is the one of that name.
func call(name string) func(c *cursor.Cursor) bool {
	for _, k := range calls {
		if k.name == name {
			return k.call
		}
	}
	return nil
}

// P5.1, P5.2
func TestWhatFails(t *testing.T) {
	for _, k := range fails {
		c := cursor.From(k.b)
		if call(k.name)(c) {
			t.Errorf("%s of % x isn't the zero value", k.name, k.b)
		}
		dead(t, k.name, c)
	}
}

// P5.1, P5.2: the bytes behind the innermost frame are not there, be they as they may.
func TestCutOffAtTheFramesEnd(t *testing.T) {
	behind := bytes.Repeat([]byte{0}, 300)
	for _, k := range fails {
		for _, deep := range []int{1, 2, 5} {
			b := join(k.b)
			for range deep {
				b = join(lend(b), behind)
			}
			c := cursor.From(b)
			for i := range deep {
				if !c.Open() || c.Deep() != i+2 {
					t.Fatal("Open: Deep", c.Deep())
				}
			}
			if call(k.name)(c) {
				t.Errorf("%s of % x in %d frames isn't the zero value", k.name, k.b, deep)
			}
			dead(t, k.name, c)
		}
	}
}

// P5.1, P5.2: the frame ends with the thing, or one byte ahead of its end.
func TestJustWithinTheFrame(t *testing.T) {
	whole := []struct {
		name string
		b    []byte
		read int // so many bytes are behind the place then
		deep int
	}{
		{"Varint", []byte{0xac, 2}, 2, 2},
		{"Varint", top, 10, 2},
		{"Fixed4", []byte{1, 2, 3, 4}, 4, 2},
		{"Fixed8", []byte{1, 2, 3, 4, 5, 6, 7, 8}, 8, 2},
		{"Text", []byte{3, 'a', 'b', 'c'}, 4, 2},
		{"Text", lend(bytes.Repeat([]byte{'z'}, 200)), 202, 2},
		{"Tag", []byte{0x08}, 1, 2},
		{"Tag", []byte{0xc2, 2}, 2, 2},
		{"Open", []byte{2, 1, 1}, 1, 3},
		{"Open", lend(make([]byte, 128)), 2, 3},
	}
	for _, k := range whole {
		c := cursor.From(join(lend(k.b), k.b))
		c.Open()
		from := c.At()
		if !call(k.name)(c) {
			t.Errorf("%s of % x: the zero value", k.name, k.b)
		}
		stands(t, k.name, c, from+k.read, k.deep, k.read < len(k.b))

		c = cursor.From(join(varint.Put(uint64(len(k.b)-1)), k.b, k.b))
		c.Open()
		if call(k.name)(c) {
			t.Errorf("%s of % x, cut off: not the zero value", k.name, k.b)
		}
		dead(t, k.name, c)
	}
}

// P5.2
func TestFramesInOneAnother(t *testing.T) {
	c := cursor.From([]byte{
		7,          // a frame 1..8
		9,          // 9
		4,          // a frame 3..7
		1, 8, 1, 6, // frames 4..5, 6..7
		5, // 5
		2, // 2
	})
	if !c.Open() {
		t.Fatal("Open")
	}
	stands(t, "in the first", c, 1, 2, true)
	if c.Close() || c.Varint() != 9 || c.Close() || !c.Open() {
		t.Fatal("in the first")
	}
	stands(t, "in the second", c, 3, 3, true)
	if c.Close() || !c.Open() {
		t.Fatal("in the second")
	}
	stands(t, "in the third", c, 4, 4, true)
	if c.Close() || c.Varint() != 8 {
		t.Fatal("in the third")
	}
	stands(t, "at the third's end", c, 5, 4, false)
	if !c.Close() {
		t.Fatal("Close of the third")
	}
	stands(t, "behind the third", c, 5, 3, true)
	if !c.Open() || c.Close() || c.Varint() != 6 {
		t.Fatal("in the fourth")
	}
	stands(t, "at the fourth's end", c, 7, 4, false)
	if !c.Close() {
		t.Fatal("Close of the fourth")
	}
	stands(t, "behind the fourth, at the second's end", c, 7, 3, false)
	if !c.Close() {
		t.Fatal("Close of the second")
	}
	stands(t, "behind the second", c, 7, 2, true)
	if c.Close() || c.Varint() != 5 || !c.Close() {
		t.Fatal("the first")
	}
	stands(t, "behind the first", c, 8, 1, true)
	if c.Close() || c.Varint() != 2 || c.Close() {
		t.Fatal("the outermost one")
	}
	stands(t, "at the end", c, 9, 1, false)
}

// P5.2
func TestEmptyFrames(t *testing.T) {
	c := cursor.From([]byte{0, 2, 0, 0, 0})
	if !c.Open() {
		t.Fatal("Open of an empty frame")
	}
	stands(t, "in an empty frame", c, 1, 2, false)
	if !c.Close() {
		t.Fatal("Close of an empty frame")
	}
	stands(t, "behind an empty frame", c, 1, 1, true)
	if !c.Open() || !c.Open() {
		t.Fatal("Open of an empty frame in another")
	}
	stands(t, "in an empty frame in another", c, 3, 3, false)
	if !c.Close() || c.Close() || !c.Open() {
		t.Fatal("the next one")
	}
	stands(t, "in an empty frame at the other's end", c, 4, 3, false)
	if !c.Close() || !c.Close() || c.Close() || !c.Open() {
		t.Fatal("the last one")
	}
	stands(t, "in an empty frame at the end of all", c, 5, 2, false)
	if !c.Close() || c.Close() {
		t.Fatal("Close at the end of all")
	}
	stands(t, "at the end of all", c, 5, 1, false)
	for _, k := range readers {
		c := cursor.From([]byte{0, 1, 1, 1, 1, 1, 1, 1, 1})
		c.Open()
		if k.call(c) {
			t.Errorf("%s in an empty frame isn't the zero value", k.name)
		}
		dead(t, k.name+" in an empty frame", c)
	}
}

// P5.2: frames that all end where the bytes end, as many as may lie in one another, are left one by one.
func TestFramesWithTheSameEnd(t *testing.T) {
	const deep = 1 << 16
	var back []byte // the bytes from the end on
	for range deep - 1 {
		for _, c := range slices.Backward(varint.Put(uint64(len(back)))) {
			back = append(back, c)
		}
	}
	slices.Reverse(back)
	c := cursor.From(back)
	for i := 1; i < deep; i++ {
		if c.Deep() != i || !c.Open() {
			t.Fatal("Open", i)
		}
	}
	stands(t, "in the innermost one", c, len(back), deep, false)
	for i := deep; i > 1; i-- {
		if c.Deep() != i || c.More() || !c.Close() {
			t.Fatal("Close", i)
		}
	}
	if c.Close() {
		t.Fatal("Close with one frame")
	}
	stands(t, "at the end", c, len(back), 1, false)
}

// P5.1, P5.2
func TestNilAndNotMade(t *testing.T) {
	dead(t, "nil", nil)
	dead(t, "not made", &cursor.Cursor{})
	var c cursor.Cursor
	dead(t, "not made", &c)
}

// P5.1: each call of a cursor that failed, as the first one.
func TestFirstCallOfOneThatFailed(t *testing.T) {
	for _, k := range calls {
		c := cursor.From([]byte{9, 4, 9, 9, 9, 0, 1, 1, 1, 1, 1, 1, 1, 1, 1, 1})
		if c.Varint() != 9 || !c.Open() || c.Deep() != 2 || c.Fixed8() != 0 {
			t.Fatal("ahead of it")
		}
		if k.call(c) {
			t.Errorf("%s isn't the zero value", k.name)
		}
		dead(t, k.name, c)
	}
}

// Rule 3: what is handed in is neither changed nor kept, and what is answered shares nothing.
func TestNothingIsShared(t *testing.T) {
	b := []byte{2, 'a', 'b', 0xac, 2, 2, 'c', 'd'}
	was := bytes.Clone(b)
	c := cursor.From(b)
	s := c.Text()
	if !bytes.Equal(b, was) {
		t.Errorf("changed: % x", b)
	}
	clear(b)
	if n := c.Varint(); n != 300 || s != "ab" {
		t.Error("kept:", n, s)
	}
	if r := c.Text(); r != "cd" || c.More() {
		t.Errorf("kept: %q", r)
	}
	// What stands behind the bytes in their list is none of them.
	long := []byte{3, 'a', 'b', 'c', 'd'}
	c = cursor.From(long[:3:5])
	if s := c.Text(); s != "" || c.Ok() {
		t.Errorf("behind the bytes: %q", s)
	}
}

// Rule 4: two cursors of the same bytes know nothing of each other.
func TestTwoCursors(t *testing.T) {
	b := []byte{3, 1, 5, 9, 7}
	c, d := cursor.From(b), cursor.From(b)
	if !c.Open() || d.Varint() != 3 || !c.Open() || d.Deep() != 1 || d.Fixed8() != 0 {
		t.Fatal("at first")
	}
	dead(t, "the one", d)
	stands(t, "the other one", c, 2, 3, true)
	if c.Varint() != 5 || !c.Close() || c.Varint() != 9 || !c.Close() || c.Varint() != 7 {
		t.Fatal("the other one, further on")
	}
}

// plain is a cursor by the chapter's words, which goes from byte to byte.
type plain struct {
	b    []byte
	at   int
	ends []int
}

// take is the next byte ahead of the innermost end, if there is one.
func (p *plain) take() (byte, bool) {
	if p.at >= p.ends[len(p.ends)-1] {
		return 0, false
	}
	p.at++
	return p.b[p.at-1], true
}

// number is the next number of bytes of seven bits.
func (p *plain) number() (uint64, bool) {
	var n uint64
	for i := range 10 {
		c, ok := p.take()
		if !ok || i == 9 && c > 1 {
			return 0, false
		}
		n += uint64(c&0x7f) << (7 * i)
		if c < 0x80 {
			return n, true
		}
	}
	return 0, false
}

// fixed is the next number of so many bytes.
func (p *plain) fixed(size int) (uint64, bool) {
	var n uint64
	for i := range size {
		c, ok := p.take()
		if !ok {
			return 0, false
		}
		n += uint64(c) << (8 * i)
	}
	return n, true
}

// text is a number and so many bytes.
func (p *plain) text() (string, bool) {
	n, ok := p.number()
	var s []byte
	for i := uint64(0); ok && i < n; i++ {
		var c byte
		if c, ok = p.take(); ok {
			s = append(s, c)
		}
	}
	return string(s), ok
}

// tag is a number, split.
func (p *plain) tag() (int, int, bool) {
	n, ok := p.number()
	if wire := n % 8; !ok || wire == 3 || wire == 4 || wire > 5 || n < 8 || n >= 1<<32 {
		return 0, 0, false
	}
	return int(n / 8), int(n % 8), true
}

// open is a number and a frame of so many bytes.
func (p *plain) open() bool {
	n, ok := p.number()
	if !ok || n > uint64(p.ends[len(p.ends)-1]-p.at) {
		return false
	}
	p.ends = append(p.ends, p.at+int(n))
	return true
}

// close leaves the innermost frame, if it is at its end.
func (p *plain) close() bool {
	last := len(p.ends) - 1
	if last == 0 || p.at != p.ends[last] {
		return false
	}
	p.ends = p.ends[:last]
	return true
}

// material is bytes of which much can be read: numbers, tags, texts and frames, and some that are nothing.
func material(r *rand.Rand, deep int) []byte {
	var b []byte
	for range r.Intn(5) {
		switch r.Intn(7) {
		case 0:
			b = append(b, byte(r.Intn(256)))
		case 1:
			b = append(b, varint.Put(r.Uint64()>>r.Intn(64))...)
		case 2:
			u, _ := tag.Of(1+r.Intn(api.MaxNum>>r.Intn(29)), []int{0, 1, 2, 5}[r.Intn(4)])
			b = append(b, varint.Put(u)...)
		case 3:
			b = append(b, lend(make([]byte, r.Intn(4)))...)
		case 4:
			b = append(b, fix.Put4(r.Uint32())...)
		default:
			if deep > 0 {
				b = append(b, lend(material(r, deep-1))...)
			}
		}
	}
	return b
}

// P5.1, P5.2, P5.3: what comes of many calls, in whatever order, is what the words say.
func TestByTheWords(t *testing.T) {
	r := rand.New(rand.NewSource(5))
	failed, left := 0, 0
	for range 60000 {
		b := material(r, 4)
		c, p := cursor.From(b), &plain{b: b, ends: []int{len(b)}}
		for range 12 {
			was := c.At()
			ok, closed := oneCall(t, r.Intn(16), c, p)
			if closed {
				left++
			}
			if !ok {
				failed++
				dead(t, "behind a failure", c)
				break
			}
			more := p.at < p.ends[len(p.ends)-1]
			stands(t, "on the way", c, p.at, len(p.ends), more)
			if c.At() < was {
				t.Fatalf("% x: from %d back to %d", b, was, c.At())
			}
		}
		if t.Failed() {
			t.Fatalf("of % x", b)
		}
	}
	if failed < 1000 || left < 1000 {
		t.Errorf("the material is poor: %d failures, %d frames left", failed, left)
	}
}

// oneCall makes the same call of both, and tells whether it did not fail, and whether a frame was left.
func oneCall(t *testing.T, which int, c *cursor.Cursor, p *plain) (bool, bool) {
	t.Helper()
	switch which {
	case 0, 1:
		n, ok := p.number()
		if got := c.Varint(); ok && got != n || !ok && got != 0 {
			t.Errorf("Varint: %d; wanted %d, %t", got, n, ok)
		}
		return ok, false
	case 2:
		n, ok := p.fixed(4)
		if got := c.Fixed4(); ok && uint64(got) != n || !ok && got != 0 {
			t.Errorf("Fixed4: %d; wanted %d, %t", got, n, ok)
		}
		return ok, false
	case 3:
		n, ok := p.fixed(8)
		if got := c.Fixed8(); ok && got != n || !ok && got != 0 {
			t.Errorf("Fixed8: %d; wanted %d, %t", got, n, ok)
		}
		return ok, false
	case 4, 5:
		s, ok := p.text()
		if got := c.Text(); ok && got != s || !ok && got != "" {
			t.Errorf("Text: %q; wanted %q, %t", got, s, ok)
		}
		return ok, false
	case 6, 7:
		num, wire, ok := p.tag()
		if n, w := c.Tag(); n != num || w != wire {
			t.Errorf("Tag: %d, %d; wanted %d, %d, %t", n, w, num, wire, ok)
		}
		return ok, false
	case 8, 9, 10, 11, 12:
		ok := p.open()
		if got := c.Open(); got != ok {
			t.Errorf("Open: %t; wanted %t", got, ok)
		}
		return ok, false
	}
	closed := p.close()
	if got := c.Close(); got != closed {
		t.Errorf("Close: %t; wanted %t", got, closed)
	}
	return true, closed
}

// P5.3: what was read is the bytes ahead of the place; it goes back only to 0.
func TestThePlaceGoesOn(t *testing.T) {
	b := []byte{0x0a, 3, 2, 'a', 'b', 0x10, 7, 1, 0, 0, 0}
	c := cursor.From(b)
	var places []int
	note := func() { places = append(places, c.At()) }
	note()
	c.Tag()
	note()
	c.Close()
	note()
	c.Open()
	note()
	c.Close()
	note()
	c.Text()
	note()
	c.Close()
	note()
	c.Tag()
	note()
	c.Varint()
	note()
	c.Fixed4()
	note()
	c.Close()
	note()
	c.Fixed4()
	note()
	if want := []int{0, 1, 1, 2, 2, 5, 5, 6, 7, 11, 11, 0}; !slices.Equal(places, want) {
		t.Errorf("%v; wanted %v", places, want)
	}
}
