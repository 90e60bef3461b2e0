package emit_test

import (
	"bytes"
	"math"
	"math/rand"
	"slices"
	"strings"
	"testing"

	"ecdysis/api"
	"ecdysis/cursor"
	"ecdysis/emit"
)

// right and wrong are numbers that a tag may have, and such as none may have.
var (
	right = []int{1, 2, 15, 16, 2047, 2048, 18999, 19000, 19999, 20000, api.MaxNum - 1, api.MaxNum}
	wrong = []int{0, -1, -2, math.MinInt, math.MinInt32, api.MaxNum + 1, api.MaxNum + 2, 1 << 32, 1<<32 + 1, 1 << 61, 1<<61 + 1, math.MaxInt}
)

// numbered is the calls that take a number.
var numbered = []struct {
	name string
	call func(w *emit.Writer, num int) bool
}{
	{"Varint", func(w *emit.Writer, num int) bool { return w.Varint(num, 300) }},
	{"Fixed4", func(w *emit.Writer, num int) bool { return w.Fixed4(num, 300) }},
	{"Fixed8", func(w *emit.Writer, num int) bool { return w.Fixed8(num, 300) }},
	{"Text", func(w *emit.Writer, num int) bool { return w.Text(num, "ab") }},
	{"Open", (*emit.Writer).Open},
}

// dead tells of each call that answers something else than the zero value, twice over: nothing changes.
func dead(t *testing.T, what string, w *emit.Writer) {
	t.Helper()
	for range 2 {
		for _, num := range slices.Concat(right, wrong) {
			for _, k := range numbered {
				if k.call(w, num) {
					t.Errorf("%s: %s of %d", what, k.name, num)
				}
			}
		}
		if w.Close() || w.Plain() || w.Plain(nil) || w.Plain([]byte{1}, []byte{2}) {
			t.Errorf("%s: Close or Plain", what)
		}
		if w.Len() != 0 || w.Deep() != 0 || len(w.Bytes()) != 0 {
			t.Errorf("%s: Len %d, Deep %d, Bytes % x", what, w.Len(), w.Deep(), w.Bytes())
		}
	}
}

// stands tells where a Writer with frames that are open is.
func stands(t *testing.T, what string, w *emit.Writer, size, deep int) {
	t.Helper()
	if w.Len() != size || w.Deep() != deep || len(w.Bytes()) != 0 {
		t.Fatalf("%s: Len %d, Deep %d, Bytes % x; wanted %d, %d, none", what, w.Len(), w.Deep(), w.Bytes(), size, deep)
	}
}

// wrote tells what a Writer without frames that are open wrote.
func wrote(t *testing.T, what string, w *emit.Writer, want ...byte) {
	t.Helper()
	if b := w.Bytes(); !bytes.Equal(b, want) || w.Len() != len(want) || w.Deep() != 0 {
		t.Fatalf("%s: % x, Len %d, Deep %d; wanted % x", what, b, w.Len(), w.Deep(), want)
	}
}

// done tells of a call that answered false.
func done(t *testing.T, oks ...bool) {
	t.Helper()
	for i, ok := range oks {
		if !ok {
			t.Fatalf("call %d of them: false", i)
		}
	}
}

// digits is a number as bytes of seven bits, by the words of chapter 1.
func digits(n uint64) []byte {
	if n < 128 {
		return []byte{byte(n)}
	}
	return append([]byte{byte(n%128 + 128)}, digits(n/128)...)
}

// low is a number's lowest bytes, the lowest one first.
func low(n uint64, size int) []byte {
	var b []byte
	for range size {
		b = append(b, byte(n%256))
		n /= 256
	}
	return b
}

// ahead is a field's tag, by the words of chapter 4.
func ahead(num, wire int) []byte {
	return digits(uint64(num)*8 + uint64(wire))
}

// lent is a field that is bytes.
func lent(num int, b []byte) []byte {
	return slices.Concat(ahead(num, 2), digits(uint64(len(b))), b)
}

// P6.1, P6.2
func TestExample(t *testing.T) {
	w := emit.New()
	done(t, w.Open(1), w.Varint(2, 300), w.Close())
	wrote(t, "the chapter's", w, 0x0a, 3, 0x10, 0xac, 2)
}

// P6.1, P6.2
func TestAtFirst(t *testing.T) {
	w := emit.New()
	wrote(t, "at first", w)
	if w.Close() {
		t.Error("Close with no frame open")
	}
	wrote(t, "behind Close", w)
}

// P6.1, P6.2
func TestOneBehindTheOther(t *testing.T) {
	w := emit.New()
	done(t, w.Varint(1, 300))
	want := []byte{0x08, 0xac, 2}
	wrote(t, "Varint", w, want...)
	done(t, w.Fixed4(2, 258))
	want = append(want, 0x15, 2, 1, 0, 0)
	wrote(t, "Fixed4", w, want...)
	done(t, w.Fixed8(40, 1<<63+1))
	want = append(want, 0xc1, 2, 1, 0, 0, 0, 0, 0, 0, 0x80)
	wrote(t, "Fixed8", w, want...)
	done(t, w.Text(3, "a\x00\xff"))
	want = append(want, 0x1a, 3, 'a', 0, 0xff)
	wrote(t, "Text", w, want...)
	done(t, w.Plain([]byte{0xff, 0}))
	want = append(want, 0xff, 0)
	wrote(t, "Plain", w, want...)
	done(t, w.Open(4), w.Close())
	want = append(want, 0x22, 0)
	wrote(t, "a frame", w, want...)
	// The numbers need not rise, and may come again.
	done(t, w.Varint(1, 0), w.Varint(1, 1))
	want = append(want, 0x08, 0, 0x08, 1)
	wrote(t, "numbers again", w, want...)
}

// P6.1: the smallest and the greatest numbers of each kind.
func TestEndsOfNumbers(t *testing.T) {
	last := []byte{0xff, 0xff, 0xff, 0xff}
	for _, k := range []struct {
		name string
		call func(w *emit.Writer) bool
		want []byte
	}{
		{"Varint 0", func(w *emit.Writer) bool { return w.Varint(1, 0) }, []byte{0x08, 0}},
		{"Varint 127", func(w *emit.Writer) bool { return w.Varint(1, 127) }, []byte{0x08, 0x7f}},
		{"Varint 128", func(w *emit.Writer) bool { return w.Varint(1, 128) }, []byte{0x08, 0x80, 1}},
		{"Varint, all bits", func(w *emit.Writer) bool { return w.Varint(1, math.MaxUint64) }, []byte{0x08, 0xff, 0xff, 0xff, 0xff, 0xff, 0xff, 0xff, 0xff, 0xff, 1}},
		{"Fixed4 0", func(w *emit.Writer) bool { return w.Fixed4(1, 0) }, []byte{0x0d, 0, 0, 0, 0}},
		{"Fixed4, all bits", func(w *emit.Writer) bool { return w.Fixed4(1, math.MaxUint32) }, slices.Concat([]byte{0x0d}, last)},
		{"Fixed8 0", func(w *emit.Writer) bool { return w.Fixed8(1, 0) }, []byte{0x09, 0, 0, 0, 0, 0, 0, 0, 0}},
		{"Fixed8, all bits", func(w *emit.Writer) bool { return w.Fixed8(1, math.MaxUint64) }, slices.Concat([]byte{0x09}, last, last)},
		{"Text, empty", func(w *emit.Writer) bool { return w.Text(1, "") }, []byte{0x0a, 0}},
		{"field 15", func(w *emit.Writer) bool { return w.Varint(15, 1) }, []byte{0x78, 1}},
		{"field 16", func(w *emit.Writer) bool { return w.Varint(16, 1) }, []byte{0x80, 1, 1}},
		{"Varint, the last field", func(w *emit.Writer) bool { return w.Varint(536870911, 1) }, []byte{0xf8, 0xff, 0xff, 0xff, 0x0f, 1}},
		{"Fixed4, the last field", func(w *emit.Writer) bool { return w.Fixed4(536870911, 1) }, []byte{0xfd, 0xff, 0xff, 0xff, 0x0f, 1, 0, 0, 0}},
		{"Fixed8, the last field", func(w *emit.Writer) bool { return w.Fixed8(536870911, 1) }, []byte{0xf9, 0xff, 0xff, 0xff, 0x0f, 1, 0, 0, 0, 0, 0, 0, 0}},
		{"Text, the last field", func(w *emit.Writer) bool { return w.Text(536870911, "a") }, []byte{0xfa, 0xff, 0xff, 0xff, 0x0f, 1, 'a'}},
		{"a frame, the last field", func(w *emit.Writer) bool { return w.Open(536870911) && w.Close() }, []byte{0xfa, 0xff, 0xff, 0xff, 0x0f, 0}},
	} {
		w := emit.New()
		done(t, k.call(w))
		wrote(t, k.name, w, k.want...)
	}
}

// P6.1: how many bytes there are takes more than one byte from 128 on, of a text as of a frame.
func TestLengths(t *testing.T) {
	for _, size := range []int{0, 1, 126, 127, 128, 129, 16383, 16384, 70000} {
		s := strings.Repeat("x", size)
		w := emit.New()
		done(t, w.Text(3, s))
		wrote(t, "a text", w, lent(3, []byte(s))...)

		w = emit.New()
		done(t, w.Varint(1, 1), w.Open(3))
		stands(t, "a frame begins", w, 2, 1)
		done(t, w.Plain([]byte(s)))
		stands(t, "in a frame", w, 2+size, 1)
		done(t, w.Close(), w.Varint(1, 2))
		wrote(t, "a frame", w, slices.Concat([]byte{8, 1}, lent(3, []byte(s)), []byte{8, 2})...)
	}
}

// P6.1, P6.2: a frame's length counts what was laid ahead of those within it, which may make it longer than 127.
func TestLengthsOfFramesInFrames(t *testing.T) {
	for size := 110; size <= 130; size++ {
		b := bytes.Repeat([]byte{7}, size)
		w := emit.New()
		done(t, w.Open(1), w.Open(16), w.Open(536870911), w.Plain(b))
		stands(t, "in the third", w, size, 3)
		want := lent(536870911, b)
		done(t, w.Close())
		stands(t, "in the second", w, len(want), 2)
		want = lent(16, want)
		done(t, w.Close())
		stands(t, "in the first", w, len(want), 1)
		want = lent(1, want)
		done(t, w.Close())
		wrote(t, "behind them", w, want...)
	}
}

// P6.1, P6.2
func TestFramesInOneAnother(t *testing.T) {
	w := emit.New()
	done(t, w.Varint(9, 9), w.Open(1), w.Varint(2, 1))
	stands(t, "in the first", w, 4, 1)
	done(t, w.Open(3))
	stands(t, "in the second", w, 4, 2)
	done(t, w.Open(4), w.Text(5, "ab"))
	stands(t, "in the third", w, 8, 3)
	done(t, w.Close())
	stands(t, "behind the third", w, 10, 2)
	done(t, w.Fixed4(6, 1), w.Open(4))
	stands(t, "in the fourth", w, 15, 3)
	done(t, w.Close())
	stands(t, "behind the fourth", w, 17, 2)
	done(t, w.Close())
	stands(t, "behind the second", w, 19, 1)
	done(t, w.Varint(7, 7), w.Close())
	want := []byte{
		0x48, 9, // field 9
		0x0a, 19, // the first
		0x10, 1, // field 2
		0x1a, 13, // the second
		0x22, 4, 0x2a, 2, 'a', 'b', // the third
		0x35, 1, 0, 0, 0, // field 6
		0x22, 0, // the fourth
		0x38, 7, // field 7
	}
	wrote(t, "behind the first", w, want...)
	if w.Close() {
		t.Fatal("Close with no frame open any more")
	}
	wrote(t, "behind Close", w, want...)
	// What was closed stays as it is when more frames come.
	done(t, w.Open(1), w.Open(2), w.Close(), w.Varint(3, 3), w.Close(), w.Varint(8, 8))
	want = append(want, 0x0a, 4, 0x12, 0, 0x18, 3, 0x40, 8)
	wrote(t, "behind one more", w, want...)
}

// P6.1
func TestEmptyFrames(t *testing.T) {
	w := emit.New()
	done(t, w.Open(1), w.Close())
	wrote(t, "one", w, 0x0a, 0)
	done(t, w.Open(1), w.Open(1), w.Close(), w.Open(2), w.Close(), w.Close())
	wrote(t, "two in another", w, 0x0a, 0, 0x0a, 4, 0x0a, 0, 0x12, 0)
	// Of what is handed to Plain within a frame there may be nothing either.
	done(t, w.Open(3), w.Plain(), w.Plain(nil, []byte{}), w.Close())
	wrote(t, "with nothing in it", w, 0x0a, 0, 0x0a, 4, 0x0a, 0, 0x12, 0, 0x1a, 0)
}

// P6.1
func TestPlain(t *testing.T) {
	w := emit.New()
	done(t, w.Plain(), w.Plain(nil), w.Plain([]byte{}), w.Plain(nil, nil))
	wrote(t, "nothing", w)
	done(t, w.Plain([]byte{1}))
	wrote(t, "one piece", w, 1)
	done(t, w.Plain([]byte{2, 0}, nil, []byte{3}, []byte{}, []byte{0xff, 4, 5}))
	wrote(t, "five pieces", w, 1, 2, 0, 3, 0xff, 4, 5)
	pieces := [][]byte{{6}, {7, 8}}
	done(t, w.Plain(pieces...), w.Plain(pieces...))
	wrote(t, "the same pieces twice", w, 1, 2, 0, 3, 0xff, 4, 5, 6, 7, 8, 6, 7, 8)
}

// P6.1
func TestRightNumbers(t *testing.T) {
	for _, num := range right {
		w := emit.New()
		done(t, w.Varint(num, 5), w.Fixed4(num, 5), w.Fixed8(num, 5), w.Text(num, "a"), w.Open(num), w.Plain([]byte{9}), w.Close())
		wrote(t, "a number", w, slices.Concat(
			ahead(num, 0), []byte{5},
			ahead(num, 5), low(5, 4),
			ahead(num, 1), low(5, 8),
			lent(num, []byte{'a'}),
			lent(num, []byte{9}))...)
	}
}

// P6.1: nothing is written, be a frame open or not.
func TestWrongNumbers(t *testing.T) {
	for _, num := range wrong {
		for _, k := range numbered {
			w := emit.New()
			if k.call(w, num) {
				t.Errorf("%s of %d", k.name, num)
			}
			wrote(t, k.name, w)
			done(t, w.Varint(1, 5), w.Open(2))
			if k.call(w, num) {
				t.Errorf("%s of %d in a frame", k.name, num)
			}
			stands(t, k.name, w, 2, 1)
			done(t, w.Varint(1, 6), w.Close())
			if k.call(w, num) {
				t.Errorf("%s of %d behind a frame", k.name, num)
			}
			wrote(t, k.name, w, 0x08, 5, 0x12, 2, 0x08, 6)
		}
	}
}

// P6.1, P6.2
func TestNilAndNotMade(t *testing.T) {
	dead(t, "nil", nil)
	dead(t, "not made", &emit.Writer{})
	dead(t, "not made", new(emit.Writer))
	for _, k := range numbered {
		w := new(emit.Writer)
		if k.call(w, 1) || k.call(nil, 1) {
			t.Errorf("%s at first", k.name)
		}
		dead(t, k.name, w)
	}
}

// P6.2
func TestBytesWhileAFrameIsOpen(t *testing.T) {
	w := emit.New()
	done(t, w.Varint(1, 1))
	wrote(t, "ahead of it", w, 8, 1)
	done(t, w.Open(2))
	stands(t, "in it", w, 2, 1)
	done(t, w.Varint(1, 2), w.Open(3))
	stands(t, "in another", w, 4, 2)
	done(t, w.Close())
	stands(t, "behind the other", w, 6, 1)
	done(t, w.Close())
	wrote(t, "behind it", w, 8, 1, 0x12, 4, 8, 2, 0x1a, 0)
	wrote(t, "once more", w, 8, 1, 0x12, 4, 8, 2, 0x1a, 0)
}

// Rule 3: what is handed in is neither changed nor kept, and what is answered shares nothing with what is kept.
func TestNothingIsShared(t *testing.T) {
	w := emit.New()
	long := []byte{1, 2, 3, 4, 5, 6}
	was := bytes.Clone(long)
	done(t, w.Plain(long[:2]), w.Open(1), w.Plain(long[:3], long[1:2]), w.Close(), w.Varint(1, 1))
	if !bytes.Equal(long, was) {
		t.Errorf("changed: % x", long)
	}
	clear(long)
	want := []byte{1, 2, 0x0a, 4, 1, 2, 3, 2, 8, 1}
	wrote(t, "kept", w, want...)
	first, second := w.Bytes(), w.Bytes()
	clear(first)
	_ = append(first, 9, 9, 9)
	if !bytes.Equal(second, want) {
		t.Errorf("two answers share: % x", second)
	}
	done(t, w.Open(2), w.Varint(1, 2), w.Close())
	clear(second)
	third := w.Bytes()
	wrote(t, "answered", w, append(want, 0x12, 2, 8, 2)...)
	done(t, w.Plain(third, third), w.Open(3), w.Plain(third), w.Close())
	if n := len(third); n != 14 || !bytes.Equal(w.Bytes(), slices.Concat(third, third, third, lent(3, third))) {
		t.Errorf("% x", w.Bytes())
	}
}

// Rule 4: two Writers know nothing of each other.
func TestTwoWriters(t *testing.T) {
	v, w := emit.New(), emit.New()
	done(t, v.Open(1), v.Varint(1, 1))
	wrote(t, "the other one", w)
	if w.Close() {
		t.Error("Close of the other one's frame")
	}
	done(t, w.Text(2, "a"), v.Close(), w.Open(3))
	wrote(t, "the one", v, 0x0a, 2, 8, 1)
	stands(t, "the other one", w, 3, 1)
}

// P6.1, P6.2: as many frames as may lie in one another, around much: a byte is not moved up once for each of them.
func TestManyFrames(t *testing.T) {
	const deep = 1 << 16
	w := emit.New()
	for i := range deep {
		done(t, w.Open(1))
		stands(t, "opened", w, 0, i+1)
	}
	done(t, w.Plain(make([]byte, 1<<20)))
	size := 1 << 20
	for i := deep; i > 0; i-- {
		done(t, w.Close())
		size += 1 + len(digits(uint64(size)))
		if w.Len() != size || w.Deep() != i-1 {
			t.Fatal("closed:", w.Len(), w.Deep(), size, i)
		}
	}
	c := cursor.From(w.Bytes())
	for i := range deep {
		if num, wire := c.Tag(); num != 1 || wire != api.WireBytes || !c.Open() || c.Deep() != i+2 {
			t.Fatal("read:", i)
		}
	}
	if size-c.At() != 1<<20 {
		t.Error("read:", size-c.At())
	}
}

// thing is a field that is written, or bytes as they are (a number of 0).
type thing struct {
	num    int
	wire   int
	n      uint64
	s      string
	framed bool
	within []thing
}

// things are drawn, with frames at most so deep.
func things(r *rand.Rand, deep int) []thing {
	var l []thing
	for range r.Intn(6) {
		x := thing{num: 1 + r.Intn(1<<r.Intn(30))}
		x.num = min(x.num, api.MaxNum)
		switch k := r.Intn(6); {
		case k == 0:
			x.wire, x.n = api.WireVarint, r.Uint64()>>r.Intn(64)
		case k == 1:
			x.wire, x.n = api.Wire32, uint64(r.Uint32())
		case k == 2:
			x.wire, x.n = api.Wire64, r.Uint64()
		case k == 3 || deep == 0:
			x.wire, x.s = api.WireBytes, strings.Repeat("é", r.Intn(90))
		default:
			x.wire, x.framed, x.within = api.WireBytes, true, things(r, deep-1)
		}
		l = append(l, x)
	}
	return l
}

// write writes things, and tells their bytes by the chapter's words.
func write(t *testing.T, w *emit.Writer, l []thing) []byte {
	t.Helper()
	var b []byte
	for _, x := range l {
		from, deep := w.Len(), w.Deep()
		var f []byte
		switch {
		case x.framed:
			done(t, w.Open(x.num))
			if w.Len() != from || w.Deep() != deep+1 {
				t.Fatal("Open:", w.Len(), w.Deep(), from, deep)
			}
			f = lent(x.num, write(t, w, x.within))
			done(t, w.Close())
		case x.wire == api.WireVarint:
			done(t, w.Varint(x.num, x.n))
			f = append(ahead(x.num, x.wire), digits(x.n)...)
		case x.wire == api.Wire32:
			done(t, w.Fixed4(x.num, uint32(x.n)))
			f = append(ahead(x.num, x.wire), low(x.n, 4)...)
		case x.wire == api.Wire64:
			done(t, w.Fixed8(x.num, x.n))
			f = append(ahead(x.num, x.wire), low(x.n, 8)...)
		default:
			done(t, w.Text(x.num, x.s))
			f = lent(x.num, []byte(x.s))
		}
		if w.Len() != from+len(f) || w.Deep() != deep {
			t.Fatal("behind a field:", w.Len(), w.Deep(), from+len(f), deep)
		}
		b = append(b, f...)
	}
	return b
}

// read tells of each thing that isn't read as it was written.
func read(t *testing.T, c *cursor.Cursor, l []thing) {
	t.Helper()
	for _, x := range l {
		num, wire := c.Tag()
		if num != x.num || wire != x.wire {
			t.Fatal("tag:", num, wire, x.num, x.wire)
		}
		ok := true
		switch {
		case x.framed:
			done(t, c.Open())
			read(t, c, x.within)
			ok = !c.More() && c.Close()
		case wire == api.WireVarint:
			ok = c.Varint() == x.n
		case wire == api.Wire32:
			ok = uint64(c.Fixed4()) == x.n
		case wire == api.Wire64:
			ok = c.Fixed8() == x.n
		default:
			ok = c.Text() == x.s
		}
		if !ok || !c.Ok() {
			t.Fatalf("%+v isn't read", x)
		}
	}
}

// P6.1, P6.2, P6.3: what is written is what the words say, and is read as it was written.
func TestReadAsWritten(t *testing.T) {
	r := rand.New(rand.NewSource(6))
	for range 3000 {
		l := things(r, 6)
		w := emit.New()
		want := write(t, w, l)
		wrote(t, "things", w, want...)
		c := cursor.From(w.Bytes())
		read(t, c, l)
		if c.More() || !c.Ok() || c.At() != w.Len() {
			t.Fatal("behind them:", c.More(), c.Ok(), c.At(), w.Len())
		}
	}
}

// P6.3: bytes that are handed to Plain within frames are those that the frames' content has.
func TestPlainInFrames(t *testing.T) {
	for size := range 300 {
		b := bytes.Repeat([]byte{byte(size)}, size)
		w := emit.New()
		done(t, w.Open(7), w.Plain(b, b), w.Open(8), w.Plain(b), w.Close(), w.Plain(b), w.Close())
		c := cursor.From(w.Bytes())
		if num, wire := c.Tag(); num != 7 || wire != api.WireBytes {
			t.Fatal("tag:", num, wire)
		}
		if s := c.Text(); s != string(slices.Concat(b, b, lent(8, b), b)) || c.More() {
			t.Fatalf("% x", s)
		}
	}
}

// step is one call, also such as tell false; it tells whether it told what the words ask for.
func step(r *rand.Rand, w *emit.Writer, open *[][]byte, nums *[]int) bool {
	all := slices.Concat(right, wrong)
	num := all[r.Intn(len(all))]
	there := slices.Contains(right, num)
	in := &(*open)[len(*open)-1]
	add := func(ok bool, b []byte) bool {
		if ok {
			*in = append(*in, b...)
		}
		return ok == there
	}
	n := r.Uint64() >> r.Intn(64)
	switch r.Intn(8) {
	case 0:
		return add(w.Varint(num, n), slices.Concat(ahead(num, 0), digits(n)))
	case 1:
		return add(w.Fixed4(num, uint32(n)), slices.Concat(ahead(num, 5), low(n, 4)))
	case 2:
		return add(w.Fixed8(num, n), slices.Concat(ahead(num, 1), low(n, 8)))
	case 3:
		b := make([]byte, r.Intn(70))
		return add(w.Text(num, string(b)), lent(num, b))
	case 4:
		b := low(n, r.Intn(9))
		there = true
		return add(w.Plain(b, nil, b), slices.Concat(b, b))
	case 5:
		if w.Open(num) {
			*open, *nums = append(*open, nil), append(*nums, num)
			return there
		}
		return !there
	}
	if len(*nums) == 0 {
		return !w.Close()
	}
	last := len(*nums) - 1
	(*open)[last] = append((*open)[last], lent((*nums)[last], *in)...)
	*open, *nums = (*open)[:last+1], (*nums)[:last]
	return w.Close()
}

// P6.1, P6.2: what comes of many calls, in whatever order, is what the words say.
func TestByTheWords(t *testing.T) {
	r := rand.New(rand.NewSource(7))
	for range 300 {
		w := emit.New()
		open, nums := [][]byte{nil}, []int(nil) // what stands in each frame, those around it without it
		for range 100 {
			if !step(r, w, &open, &nums) {
				t.Fatal("true or false")
			}
			b := slices.Concat(open...)
			if len(nums) > 0 {
				stands(t, "a frame is open", w, len(b), len(nums))
			} else {
				wrote(t, "no frame is open", w, b...)
			}
		}
	}
}
