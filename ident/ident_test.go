package ident_test

import (
	"math/rand"
	"slices"
	"strconv"
	"strings"
	"testing"
	"unicode/utf8"

	"ecdysis/api"
	"ecdysis/ident"
)

const (
	letters = "abcdefghijklmnopqrstuvwxyzABCDEFGHIJKLMNOPQRSTUVWXYZ"
	digits  = "0123456789"
	inside  = letters + digits + "_" // what may stand behind a name's first letter
)

// words is those of the languages, as P9.1 has them.
var words = strings.Split("enum, message, oneof, repeated, reserved, loose, int32, int64, uint32, uint64, sint32, sint64, bool, fixed32, fixed64, sfixed32, sfixed64, string, bytes, rename, renumber, retype, split, join, wrap, unwrap, add, drop, to, into, as, of, default, true, false", ", ")

// names is some of all kinds, the edges among them.
var names = strings.Fields(`
a z A Z b m y B M Y a_1 a0 a9 az aA aZ a_ A_ z_ a__ a00 Ab aB AB M W o x y c w a1b2c3 snake_case camelCase PascalCase UPPER_CASE
l1 O0 I x86 e10 E1 a_b_c a1 a11 a111 z9 Z9 Z_9 z_Z
abcdefghijk abcdefghijkl ABCDEFGHIJKL zzzzzzzzzzzz ZZZZZZZZZZZZ a00000000000 a99999999999 a___________ Z_9z_0A_aZ_9 x23456789_12
package import option optional required extend extensions syntax service rpc returns map group weak public
float double int uint int8 int16 uint8 uint16 sint fixed sfixed byte strings text none null nil
get put create read write move type func var const`)

// strange is what stands in no name, neither at its beginning nor behind.
var strange = []string{
	// The characters next to the letters and to the digits.
	"@", "[", "`", "{", "/", ":", "^", "\\", "]", "}", "|", "~",
	// Blanks and line's ends.
	" ", "\t", "\n", "\r", "\r\n", "\v", "\f", "\x00", "\x7f", "\x01", "\x1f",
	// What stands in texts of the languages, and in names elsewhere.
	"-", "+", ".", ",", ";", "=", "(", ")", "'", "\"", "//", "#", "$", "%", "&", "*", "!", "?", "<", ">",
	// Characters of two, three and four bytes: letters and digits elsewhere, and those whose lowest eight bits are a letter's, a digit's, the underscore's.
	"é", "ß", "ª", "µ", "\u0130", "\u0131", "\u017f", "\u0161", "\u0141", "\u015f", "\u0660", "\uff41", "\uff21", "\uff10", "\uff3f", "\u203f", "\u212a", "\u2160",
	"\u4e61", "\U0001d41a", "\U0001d7ce", "\U00010061", "\U0001005f", "\U00010030", "\u00a0", "\u2028", "\ufeff", "\u0301", "\u200b", "\ufffd", "a\u0301",
	// Bytes that are no text.
	"\x80", "\xb0", "\xc1", "\xdf", "\xe1", "\xff", "\xc3", "\xc3\x28", "\xe2\x82", "\xf0\x9f\x98", "\xc1\xa1", "\xe0\x81\xa1", "\xed\xa0\x80", "\xf4\x90\x80\x80", "\xff\xff",
}

// wanted is P9.1 of a name, word by word.
func wanted(s string) bool {
	if len(s) < 1 || 12 < len(s) || slices.Contains(words, s) {
		return false
	}
	for i := range len(s) {
		if strings.IndexByte(inside, s[i]) < 0 {
			return false
		}
	}
	return strings.IndexByte(letters, s[0]) >= 0
}

// is tells if s is taken for no name.
func is(t *testing.T, s string) {
	t.Helper()
	if !ident.Right(s) {
		t.Errorf("%q is told to be no name", s)
	}
}

// none tells if s is taken for a name.
func none(t *testing.T, s string) {
	t.Helper()
	if ident.Right(s) {
		t.Errorf("%q is told to be a name", s)
	}
}

// agrees tells of what Right answers otherwise than the words of P9.1, and whether there is a name.
func agrees(t *testing.T, s string) bool {
	t.Helper()
	want := wanted(s)
	if ident.Right(s) != want {
		t.Fatalf("Right of %q: %t; wanted %t", s, !want, want)
	}
	return want
}

// ahead tells whether a is ahead of b, byte by byte.
func ahead(a, b string) bool {
	for a != "" && b != "" && a[0] == b[0] {
		a, b = a[1:], b[1:]
	}
	if a == "" || b == "" {
		return b != ""
	}
	return a[0] < b[0]
}

// rises is P9.1 of a list that rises, word by word.
func rises(l []string) bool {
	for len(l) > 1 {
		if !ahead(l[0], l[1]) {
			return false
		}
		l = l[1:]
	}
	return true
}

// single is P9.1 of a list in which none is twice, word by word.
func single(l []string) bool {
	for i := range l {
		for j := range i {
			if l[i] == l[j] {
				return false
			}
		}
	}
	return true
}

// lists tells of what Rise and Once answer otherwise.
func lists(t *testing.T, rise, once bool, l ...string) {
	t.Helper()
	if got := ident.Rise(l...); got != rise {
		t.Errorf("Rise of %q: %t; wanted %t", l, got, rise)
	}
	if got := ident.Once(l...); got != once {
		t.Errorf("Once of %q: %t; wanted %t", l, got, once)
	}
}

// all calls f with every list of n of the texts.
func all(texts []string, n int, f func(l []string)) {
	l := make([]string, n)
	var fill func(at int)
	fill = func(at int) {
		if at == n {
			f(l)
			return
		}
		for _, s := range texts {
			l[at] = s
			fill(at + 1)
		}
	}
	fill(0)
}

// P9.1: the chapter's example.
func TestExample(t *testing.T) {
	is(t, "a_1")
	none(t, "1a")
	none(t, "to")
	none(t, "aé")
}

// P9.1
func TestNames(t *testing.T) {
	for _, s := range names {
		is(t, s)
	}
}

// P9.1: each letter, digit and the underscore, at the first place, in the midst and at the end.
func TestEveryPlace(t *testing.T) {
	for _, c := range strings.Split(inside, "") {
		for size := 1; size <= api.MaxName; size++ {
			for at := range size {
				s := strings.Repeat("k", at) + c + strings.Repeat("k", size-at-1)
				if at > 0 || strings.Contains(letters, c) {
					is(t, s)
				} else {
					none(t, s)
				}
			}
		}
	}
}

// P9.1: how many bytes a name has.
func TestHowLong(t *testing.T) {
	none(t, "")
	for _, c := range strings.Split(letters, "") {
		for size := 1; size <= api.MaxName; size++ {
			is(t, strings.Repeat(c, size))
		}
		for size := api.MaxName + 1; size < 4*api.MaxName; size++ {
			none(t, strings.Repeat(c, size))
		}
	}
	for _, size := range []int{100, 255, 256, 257, 256 + 5, 512 + 1, 1<<16 + 1, 1<<16 + api.MaxName, 1 << 20} {
		none(t, strings.Repeat("a", size))
	}
	for _, s := range names {
		none(t, s+strings.Repeat("_", api.MaxName+1-len(s)))
		none(t, strings.Repeat("a", api.MaxName+1-len(s))+s)
	}
}

// P9.1: no word is a name.
func TestWords(t *testing.T) {
	if len(words) != 35 {
		t.Fatal(len(words), "words")
	}
	for _, w := range words {
		none(t, w)
	}
}

// P9.1: what is nearly a word is a name, if it is no other word.
func TestNearlyWords(t *testing.T) {
	near := func(s string) {
		t.Helper()
		if slices.Contains(words, s) {
			none(t, s)
		} else {
			is(t, s)
		}
	}
	for _, w := range words {
		near(w[:len(w)-1])
		for _, c := range strings.Split(inside, "") {
			near(w + c)
		}
		for _, c := range strings.Split(letters, "") {
			near(c + w)
		}
		for at := range len(w) {
			if c := w[at]; 'a' <= c && c <= 'z' {
				is(t, w[:at]+string(c-'a'+'A')+w[at+1:])
			}
			if at > 0 {
				near(w[:at] + w[at+1:])
				is(t, w[:at]+"_"+w[at:])
			}
		}
		near(w[1:])
		is(t, strings.ToUpper(w))
		is(t, strings.ToUpper(w[:1])+w[1:])
		if 2*len(w) <= api.MaxName {
			is(t, w+w)
		}
		none(t, " "+w)
		none(t, w+" ")
		none(t, w+"\n")
	}
}

// P9.1: each text of one byte and of two, and of three that begin as names do.
func TestEveryShortText(t *testing.T) {
	one, two, three := 0, 0, 0
	for c := range 256 {
		if agrees(t, string([]byte{byte(c)})) {
			one++
		}
		for d := range 256 {
			if agrees(t, string([]byte{byte(c), byte(d)})) {
				two++
			}
		}
	}
	for _, c := range strings.Split(letters, "") {
		for d := range 256 {
			for e := range 256 {
				if agrees(t, c+string([]byte{byte(d), byte(e)})) {
					three++
				}
			}
		}
	}
	// Of two bytes are the words to, as and of; of three is add.
	if one != 52 || two != 52*63-3 || three != 52*63*63-1 {
		t.Errorf("%d names of one byte, %d of two, %d of three", one, two, three)
	}
}

// P9.1: each byte at each place of names of all lengths.
func TestEveryByteAtEveryPlace(t *testing.T) {
	const name = "Ab_9zZ_0aB_1"
	right := 0
	for size := 1; size <= len(name); size++ {
		for at := range size {
			for c := range 256 {
				b := []byte(name[:size])
				b[at] = byte(c)
				if agrees(t, string(b)) {
					right++
				}
			}
		}
	}
	// 52 letters at each first place, 63 characters at all other ones.
	if right != 12*52+66*63 {
		t.Errorf("%d names", right)
	}
}

// P9.1: what stands in no name, alone, ahead of names, within and behind them, in place of some of their bytes.
func TestWhatStandsInNoName(t *testing.T) {
	for _, x := range strange {
		none(t, x)
		none(t, x+x)
		none(t, x+"a")
		none(t, "a"+x)
		none(t, "a"+x+"a")
	}
	for _, s := range []string{"a", "Z9", "a_1", "Ab_9zZ", "abcdefghijk", "abcdefghijkl"} {
		for _, x := range strange {
			for at := range len(s) + 1 {
				none(t, s[:at]+x+s[at:])
				if at+len(x) <= len(s) {
					none(t, s[:at]+x+s[at+len(x):])
				}
			}
		}
	}
}

// P9.1: of all characters only the letters, the digits and the underscore stand in names.
func TestEveryCharacter(t *testing.T) {
	first, behind := 0, 0
	for r := range rune(utf8.MaxRune + 1) {
		x := string(r)
		if agrees(t, x) {
			first++
		}
		if agrees(t, "a"+x) {
			behind++
		}
		if agrees(t, "a"+x+"_1") != agrees(t, "abcdef"+x) {
			t.Fatalf("%q: not the same in the midst and at the end", x)
		}
	}
	// as is a word.
	if first != 52 || behind != 62 {
		t.Errorf("%d characters begin a name, %d stand in one", first, behind)
	}
}

// P9.1: texts by chance of what may stand in them.
func TestTextsByChance(t *testing.T) {
	r := rand.New(rand.NewSource(9))
	const tries = 200000
	right := 0
	for range tries {
		var s string
		switch r.Intn(3) {
		case 0:
			s = words[r.Intn(len(words))]
		case 1:
			s = names[r.Intn(len(names))]
		}
		for range r.Intn(8) {
			s += string(inside[r.Intn(len(inside))])
		}
		at := r.Intn(len(s) + 1)
		switch r.Intn(5) {
		case 0:
			s = s[:at] + strange[r.Intn(len(strange))] + s[at:]
		case 1:
			s = s[:at]
		case 2:
			s = s[at:]
		case 3:
			b := []byte(s)
			if at < len(b) {
				b[at] ^= 1 << r.Intn(8)
			}
			s = string(b)
		}
		if agrees(t, s) {
			right++
		}
	}
	if right < tries/10 || right > tries*9/10 {
		t.Errorf("the material is poor: %d right ones", right)
	}
}

// P9.1: no names, and one.
func TestShortLists(t *testing.T) {
	lists(t, true, true)
	lists(t, true, true, []string{}...)
	lists(t, true, true, "")
	for _, l := range [][]string{names, words, strange} {
		for _, s := range l {
			lists(t, true, true, s)
			lists(t, false, false, s, s)
			lists(t, true, true, "", s)
			lists(t, false, true, s, "")
		}
	}
	lists(t, false, false, "", "")
}

// P9.1: lists, worked out by hand.
func TestLists(t *testing.T) {
	lists(t, true, true, "a", "b")
	lists(t, false, true, "b", "a")
	lists(t, true, true, "a", "b", "c", "d")
	lists(t, false, true, "d", "c", "b", "a")
	lists(t, false, true, "a", "c", "b", "d")
	lists(t, false, true, "b", "a", "c", "d")
	lists(t, false, true, "a", "b", "d", "c")
	// One begins another.
	lists(t, true, true, "a", "a_", "a_1", "a_11", "a_1a")
	lists(t, false, true, "a_1", "a")
	lists(t, false, true, "a", "ab", "abc", "ab0")
	// The empty text.
	lists(t, true, true, "", "a", "b")
	lists(t, false, true, "a", "", "b")
	lists(t, false, true, "a", "b", "")
	lists(t, false, false, "", "a", "")
	lists(t, false, false, "", "", "a")
	// Capitals are ahead of the underscore, this is ahead of the small letters, digits are ahead of all; 10 is ahead of 9.
	lists(t, true, true, "A", "B", "Z", "_", "a", "b", "z")
	lists(t, true, true, "a0", "a9", "aA", "aZ", "a_", "aa", "az")
	lists(t, true, true, "a1", "a10", "a2", "a9")
	lists(t, false, true, "a1", "a2", "a9", "a10")
	lists(t, false, true, "a", "B", "c")
	lists(t, true, true, "AB", "Ab", "aB", "ab")
	lists(t, true, true, "Z", "aa")
	lists(t, true, true, "az", "b")
	lists(t, true, true, "zzzzzzzzzzz", "zzzzzzzzzzzz")
	// Next to each other: nothing is between.
	lists(t, true, true, "a", "a\x00", "a\x00\x00", "a\x00\x01")
	lists(t, false, true, "a\x00", "a")
	lists(t, true, true, "aaaaaaaaaaa\x7f", "aaaaaaaaaaa\x80")
	// What is no name is held against others byte by byte, too.
	lists(t, true, true, "a", "z", "é", "\uff41", "\U0001d41a", "\xff")
	lists(t, true, true, "\uffff", "\U00010000")
	lists(t, false, true, "é", "z")
	lists(t, true, true, "\xc3", "\xc3\x28", "\xc3\xa9", "\xff", "\xff\xfe", "\xff\xff")
	// What looks the same, or comes as the same rune, is not.
	lists(t, true, true, "\x80", "\x81")
	lists(t, false, true, "\xff", "\xfe", "\ufffd")
	lists(t, false, true, "é", "e\u0301")
	// Words.
	lists(t, true, true, "as", "into", "of", "to")
	lists(t, false, false, "to", "to")
}

// P9.1: one there twice: side by side, at both ends, among many.
func TestTwice(t *testing.T) {
	lists(t, false, false, "a", "a", "b")
	lists(t, false, false, "a", "b", "b")
	lists(t, false, false, "a", "b", "a")
	lists(t, false, false, "b", "a", "b")
	lists(t, false, false, "a", "b", "c", "a")
	lists(t, false, false, "a", "b", "b", "c")
	lists(t, false, false, "c", "a", "b", "a")
	lists(t, false, false, "a", "a", "a")
	lists(t, false, false, "a", "b", "a", "b")
	var many []string
	for n := range 40 {
		many = append(many, "n"+strconv.Itoa(100+n))
	}
	lists(t, true, true, many...)
	for i := range many {
		for j := range many {
			l := slices.Clone(many)
			l[i] = many[j]
			lists(t, i == j, i == j, l...)
			l = slices.Clone(many)
			l[i], l[j] = l[j], l[i]
			lists(t, i == j, true, l...)
		}
	}
}

// P9.1, P9.2: each list of up to five of some texts; what rises is there once.
func TestEveryShortList(t *testing.T) {
	texts := []string{"", "A", "_", "a", "a_", "aa", "b", "\x80"}
	for n := range 6 {
		rise, once := 0, 0
		all(texts, n, func(l []string) {
			wantRise, wantOnce := rises(l), single(l)
			gotRise, gotOnce := ident.Rise(l...), ident.Once(l...)
			if gotRise != wantRise || gotOnce != wantOnce {
				t.Fatalf("Rise, Once of %q: %t, %t; wanted %t, %t", l, gotRise, gotOnce, wantRise, wantOnce)
			}
			if gotRise && !gotOnce {
				t.Fatalf("%q rises, and one is there twice", l)
			}
			if gotRise {
				rise++
			}
			if gotOnce {
				once++
			}
		})
		// So many ways are there to take n of eight, in one order and in all orders.
		if want := []int{1, 8, 28, 56, 70, 56}[n]; rise != want {
			t.Errorf("%d lists of %d rise; wanted %d", rise, n, want)
		}
		if want := []int{1, 8, 56, 336, 1680, 6720}[n]; once != want {
			t.Errorf("in %d lists of %d none is twice; wanted %d", once, n, want)
		}
	}
}

// P9.1, P9.2: lists by chance; what rises is there once, in whatever order it comes.
func TestListsByChance(t *testing.T) {
	r := rand.New(rand.NewSource(92))
	const tries = 50000
	rise, once := 0, 0
	for range tries {
		var l []string
		for range r.Intn(12) {
			l = append(l, names[r.Intn(len(names))])
		}
		if r.Intn(2) == 0 {
			slices.Sort(l)
		}
		if r.Intn(2) == 0 {
			l = slices.Compact(l)
		}
		wantRise, wantOnce := rises(l), single(l)
		lists(t, wantRise, wantOnce, l...)
		if wantRise {
			rise++
			r.Shuffle(len(l), func(i, j int) { l[i], l[j] = l[j], l[i] })
			lists(t, rises(l), true, l...)
		}
		if wantOnce {
			once++
		}
	}
	if rise < tries/10 || once-rise < tries/10 || once > tries*9/10 {
		t.Errorf("the material is poor: %d rise, in %d none is twice", rise, once)
	}
}

// P9.1, P9.2: many names, and one that is twice, or out of its place, at the very end.
func TestMuch(t *testing.T) {
	many := make([]string, 1<<18)
	for i := range many {
		many[i] = "n" + strconv.Itoa(1<<20+i)
	}
	check := func(what string, rise, once bool, l []string) {
		t.Helper()
		if r, o := ident.Rise(l...), ident.Once(l...); r != rise || o != once {
			t.Errorf("%s: Rise, Once: %t, %t; wanted %t, %t", what, r, o, rise, once)
		}
	}
	last := len(many) - 1
	check("rising", true, true, many)
	check("the first one again", false, false, append(slices.Clone(many), many[0]))
	check("the last one again", false, false, append(slices.Clone(many), many[last]))
	check("one from the midst again", false, false, append(slices.Clone(many), many[last/2]))
	check("the empty text at the end", false, true, append(slices.Clone(many), ""))
	back := slices.Clone(many)
	slices.Reverse(back)
	check("falling", false, true, back)
	check("falling, the first one again", false, false, append(back, many[last]))
	check("all the same", false, false, slices.Repeat([]string{"a"}, len(many)))
	long := strings.Repeat("a", 1<<20)
	check("long texts", true, true, []string{long[1:], long, long + "a", long + "b"})
	check("long texts, one twice", false, false, []string{long + "b", long, long[1:], long + "b"})
}

// Rule 3: the list that is handed in stays as it is, in what stands behind it, too.
func TestNothingIsChanged(t *testing.T) {
	room := []string{"d", "a", "c", "a", "b", "z", "y"}
	old := slices.Clone(room)
	for size := range len(room) + 1 {
		rise, once := ident.Rise(room[:size]...), ident.Once(room[:size]...)
		if !slices.Equal(room, old) {
			t.Fatalf("changed: %q", room)
		}
		if rise != (size < 2) || once != (size < 4) {
			t.Errorf("Rise, Once of %q: %t, %t", room[:size], rise, once)
		}
	}
}

// Rule 4: the same is answered again, whatever was asked between.
func TestAgain(t *testing.T) {
	for range 3 {
		for _, l := range [][]string{names, words, strange} {
			for _, s := range l {
				agrees(t, s)
			}
		}
		lists(t, true, true, "a", "b")
		lists(t, false, false, "b", "a", "b")
	}
}
