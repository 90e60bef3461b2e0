package hex_test

import (
	"bytes"
	"math/rand"
	"slices"
	"strings"
	"testing"
	"unicode/utf8"

	"ecdysis/hex"
)

// known is bytes and their digits, worked out by hand.
var known = []struct {
	b []byte
	s string
}{
	{nil, ""},
	{[]byte{}, ""},
	{[]byte{1, 255}, "01ff"},
	{[]byte{255, 1}, "ff01"},
	{[]byte{0}, "00"},
	{[]byte{9}, "09"},
	{[]byte{10}, "0a"},
	{[]byte{15}, "0f"},
	{[]byte{16}, "10"},
	{[]byte{144}, "90"},
	{[]byte{159}, "9f"},
	{[]byte{160}, "a0"},
	{[]byte{240}, "f0"},
	{[]byte{255}, "ff"},
	{[]byte{0, 0, 0}, "000000"},
	{[]byte{0, 9, 10, 15, 16, 159, 160, 255}, "00090a0f109fa0ff"},
	{[]byte{0x01, 0x23, 0x45, 0x67, 0x89, 0xab, 0xcd, 0xef}, "0123456789abcdef"},
	{[]byte{0xfe, 0xdc, 0xba, 0x98, 0x76, 0x54, 0x32, 0x10}, "fedcba9876543210"},
	{[]byte("a\x00\n0"), "61000a30"},
}

// strange is what is no digit: each is a wrong text, and makes a wrong text of each in which it stands.
var strange = []string{
	// The characters next to the digits, and next to the capital letters that are digits elsewhere.
	"/", ":", "`", "g", "@", "G",
	"A", "B", "C", "D", "E", "F",
	// Blanks and line's ends.
	" ", "\t", "\n", "\r", "\r\n", "\v", "\f", "\x00",
	// What stands ahead of digits, or between them, elsewhere.
	"0x", "0X", "x", "X", "#", "$", "\\x", "%", "-", "+", "_", ".", ",", "h", "z", "Z", "~", "\x7f",
	// Characters of two, three and four bytes: digits elsewhere, and those whose lowest eight bits are a digit's.
	"é", "\u0660", "\uff10", "\uff41", "\U0001d7ce", "\u0130", "\u0161", "\u3030", "\uff66", "\U00010030", "\U00010161",
	"\u00a0", "\u2028", "\ufeff", "\u0301", "\ufffd",
	// Bytes that are no text.
	"\x80", "\xb0", "\xe1", "\xff", "\xc3", "\xc3\x28", "\xe2\x82", "\xf0\x9f\x98", "\xc0\xb0", "\xe0\x80\xb0", "\xed\xa0\x80", "\xf4\x90\x80\x80", "\xff\xff",
}

// pairs is all texts of two digits and the byte of each, counted one by one.
func pairs() map[string]byte {
	m := map[string]byte{}
	for _, high := range strings.Fields("0 1 2 3 4 5 6 7 8 9 a b c d e f") {
		for _, low := range strings.Fields("0 1 2 3 4 5 6 7 8 9 a b c d e f") {
			m[high+low] = byte(len(m))
		}
	}
	return m
}

// texts is the digits of each byte, by the same count.
func texts() []string {
	l := make([]string, 256)
	for s, c := range pairs() {
		l[c] = s
	}
	return l
}

// wanted is P8.1 word by word: two bytes of the text at a time.
func wanted(m map[string]byte, s string) ([]byte, bool) {
	var b []byte
	for len(s) >= 2 {
		c, ok := m[s[:2]]
		if !ok {
			return nil, false
		}
		b = append(b, c)
		s = s[2:]
	}
	if s != "" {
		return nil, false
	}
	return b, true
}

// gets tells of what Get answers otherwise.
func gets(t *testing.T, s string, want ...byte) {
	t.Helper()
	if b, ok := hex.Get(s); !ok || !bytes.Equal(b, want) {
		t.Errorf("Get of %q: % x, %t; wanted % x", s, b, ok, want)
	}
}

// none tells if Get finds bytes, or answers any beside false.
func none(t *testing.T, s string) {
	t.Helper()
	if b, ok := hex.Get(s); ok || len(b) != 0 {
		t.Errorf("Get of %q: % x, %t; wanted none", s, b, ok)
	}
}

// agrees tells of what Get answers otherwise than the words of P8.1, and whether there is something.
func agrees(t *testing.T, m map[string]byte, s string) bool {
	t.Helper()
	want, is := wanted(m, s)
	if b, ok := hex.Get(s); ok != is || !bytes.Equal(b, want) {
		t.Fatalf("Get of %q: % x, %t; wanted % x, %t", s, b, ok, want, is)
	}
	return is
}

// P8.1
func TestKnown(t *testing.T) {
	for _, k := range known {
		if s := hex.Put(k.b); s != k.s {
			t.Errorf("Put of % x: %q; wanted %q", k.b, s, k.s)
		}
		gets(t, k.s, k.b...)
	}
}

// P8.1: each byte alone, the higher digit first.
func TestEveryByteAlone(t *testing.T) {
	for c, want := range texts() {
		if s := hex.Put([]byte{byte(c)}); s != want {
			t.Errorf("Put of %d: %q; wanted %q", c, s, want)
		}
		gets(t, want, byte(c))
	}
}

// P8.1: each byte behind each other one.
func TestEveryByteBehindEveryOther(t *testing.T) {
	l := texts()
	for c := range 256 {
		for d := range 256 {
			want := l[c] + l[d]
			if s := hex.Put([]byte{byte(c), byte(d)}); s != want {
				t.Fatalf("Put of %d, %d: %q; wanted %q", c, d, s, want)
			}
			if b, ok := hex.Get(want); !ok || !bytes.Equal(b, []byte{byte(c), byte(d)}) {
				t.Fatalf("Get of %q: % x, %t", want, b, ok)
			}
		}
	}
}

// P8.1: each text of one byte and of two, whether it is digits or none.
func TestEveryShortText(t *testing.T) {
	m := pairs()
	right := 0
	for c := range 256 {
		none(t, string([]byte{byte(c)}))
		for d := range 256 {
			if agrees(t, m, string([]byte{byte(c), byte(d)})) {
				right++
			}
		}
	}
	if right != 256 {
		t.Errorf("%d texts of two bytes are a byte's", right)
	}
}

// P8.1: an odd number of digits.
func TestOddNumbersOfDigits(t *testing.T) {
	for _, k := range known {
		for _, d := range "0123456789abcdef" {
			none(t, k.s+string(d))
			none(t, string(d)+k.s)
		}
		for cut := 1; cut < len(k.s); cut += 2 {
			none(t, k.s[:cut])
			none(t, k.s[cut:])
		}
	}
	none(t, strings.Repeat("0", 1<<20+1))
}

// P8.1: what is no digit, alone, ahead of digits, between and behind them, in place of some and beside them.
func TestWhatIsNoDigit(t *testing.T) {
	const good = "00090a0f109fa0ff"
	for _, x := range strange {
		none(t, x)
		none(t, x+x)
		none(t, x+"0")
		none(t, "0"+x)
		for at := range len(good) + 1 {
			none(t, good[:at]+x+good[at:])
			none(t, good[:at]+x+x+good[at:])
			if at+len(x) <= len(good) {
				none(t, good[:at]+x+good[at+len(x):])
			}
		}
	}
}

// P8.1: capital letters are no digits, whatever stands beside them.
func TestCapitals(t *testing.T) {
	m := pairs()
	for s := range m {
		if up := strings.ToUpper(s); up != s {
			none(t, up)
			none(t, s+up)
			none(t, up+s)
		}
	}
}

// P8.1: of all characters only the sixteen are digits; each text has an even number of bytes.
func TestEveryCharacter(t *testing.T) {
	m := pairs()
	right := 0
	for r := range rune(utf8.MaxRune + 1) {
		x := string(r)
		for _, s := range []string{x + x, x + "0", "0" + x} {
			if len(s)%2 == 0 && agrees(t, m, s) {
				right++
			}
		}
	}
	if right != 48 {
		t.Errorf("%d texts are a byte's", right)
	}
}

// P8.1: texts by chance of what may stand in them.
func TestTextsByChance(t *testing.T) {
	r := rand.New(rand.NewSource(8))
	m := pairs()
	l := texts()
	const tries = 100000
	right := 0
	for range tries {
		var s string
		for range r.Intn(8) {
			s += l[r.Intn(256)]
		}
		at := r.Intn(len(s) + 1)
		switch r.Intn(4) {
		case 0:
			s = s[:at] + strange[r.Intn(len(strange))] + s[at:]
		case 1:
			s = s[:at]
		case 2:
			b := []byte(s)
			if at < len(b) {
				b[at] ^= 1 << r.Intn(8)
			}
			s = string(b)
		}
		if agrees(t, m, s) {
			right++
		}
	}
	if right < tries/10 || right > tries*9/10 {
		t.Errorf("the material is poor: %d right ones", right)
	}
}

// P8.2: what is put is got, of all lengths; and what is got, put, is the text.
func TestPutIsGot(t *testing.T) {
	r := rand.New(rand.NewSource(82))
	for size := range 1000 {
		b := make([]byte, size)
		r.Read(b)
		s := hex.Put(b)
		if len(s) != 2*size {
			t.Fatalf("Put of %d bytes has %d digits", size, len(s))
		}
		got, ok := hex.Get(s)
		if !ok || !bytes.Equal(got, b) {
			t.Fatalf("Get of %q: % x, %t; wanted % x", s, got, ok, b)
		}
		if again := hex.Put(got); again != s {
			t.Fatalf("Put of what is got of %q: %q", s, again)
		}
	}
}

// P8.2: no two lists of bytes have the same text, and a text of which there are bytes is Put's of them.
func TestEveryTextIsOfOneList(t *testing.T) {
	seen := map[string]bool{hex.Put(nil): true}
	for c := range 256 {
		seen[hex.Put([]byte{byte(c)})] = true
		for d := range 256 {
			seen[hex.Put([]byte{byte(c), byte(d)})] = true
		}
	}
	if len(seen) != 1+256+65536 {
		t.Errorf("%d texts", len(seen))
	}
	for s := range seen {
		if b, ok := hex.Get(s); !ok || hex.Put(b) != s {
			t.Fatalf("Get of %q: % x, %t", s, b, ok)
		}
	}
}

// P8.1, P8.2: many bytes, and a text that is wrong at its very end.
func TestMuch(t *testing.T) {
	b := make([]byte, 1<<20)
	l := texts()
	var want strings.Builder
	for i := range b {
		b[i] = byte(i * 7)
		want.WriteString(l[b[i]])
	}
	s := hex.Put(b)
	if s != want.String() {
		t.Fatal("Put:", len(s))
	}
	if got, ok := hex.Get(s); !ok || !bytes.Equal(got, b) {
		t.Fatal("Get:", len(got), ok)
	}
	for _, wrong := range []string{s[1:], s[:len(s)-1], s + "g0", s + "0g", s[:len(s)-1] + "F", "0x" + s, s + "\n", s + "\n\n"} {
		if got, ok := hex.Get(wrong); ok || len(got) != 0 {
			t.Fatal("Get of what is wrong:", len(got), ok)
		}
	}
}

// Rule 3: arguments stay as they are, and answers share nothing.
func TestNothingIsSharedOrChanged(t *testing.T) {
	room := []byte{1, 0xab, 255, 7, 8}
	old := slices.Clone(room)
	s := hex.Put(room[:3])
	if !bytes.Equal(room, old) {
		t.Errorf("changed: % x", room)
	}
	clear(room)
	if s != "01abff" {
		t.Errorf("kept: %q", s)
	}
	first, _ := hex.Get(s)
	clear(first[:cap(first)])
	gets(t, s, 1, 0xab, 255)
	if again := hex.Put([]byte{1, 0xab, 255}); again != s || s != "01abff" {
		t.Errorf("Put, again: %q; %q", again, s)
	}
}
