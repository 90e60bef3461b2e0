package scalar_test

import (
	"math"
	"math/big"
	"math/rand"
	"slices"
	"strconv"
	"strings"
	"testing"

	"ecdysis/api"
	"ecdysis/scalar"
)

// types is P11.1 of every type, written out by hand.
var types = []struct {
	ty     int
	number int // the type's number, as the chapter has it
	word   string
	wire   int
	marks  string // of whole, number, signed and wide those that hold, in this order
}{
	{api.TyInt32, 1, "int32", 0, "whole number signed"},
	{api.TyInt64, 2, "int64", 0, "whole number signed wide"},
	{api.TyUint32, 3, "uint32", 0, "whole number"},
	{api.TyUint64, 4, "uint64", 0, "whole number wide"},
	{api.TySint32, 5, "sint32", 0, "whole number signed"},
	{api.TySint64, 6, "sint64", 0, "whole number signed wide"},
	{api.TyBool, 7, "bool", 0, "number"},
	{api.TyFixed32, 8, "fixed32", 5, "whole number"},
	{api.TyFixed64, 9, "fixed64", 1, "whole number wide"},
	{api.TySfixed32, 10, "sfixed32", 5, "whole number signed"},
	{api.TySfixed64, 11, "sfixed64", 1, "whole number signed wide"},
	{api.TyString, 12, "string", 2, ""},
	{api.TyBytes, 13, "bytes", 2, ""},
	{api.TyEnum, 14, "", 0, "number signed"},
	{api.TyMessage, 15, "", 2, ""},
}

// words is those of the types 1 to 13, as P11.1 has them.
var words = strings.Split("int32, int64, uint32, uint64, sint32, sint64, bool, fixed32, fixed64, sfixed32, sfixed64, string, bytes", ", ")

// none is what is no type: next to the types, far from them, and what has a type's number as its lowest bits.
func none() []int {
	l := []int{0, -1, 16, math.MinInt, math.MaxInt}
	for i := 1; i < 1000; i++ {
		l = append(l, -i, 15+i)
	}
	for shift := 4; shift < 63; shift++ {
		for ty := -1; ty <= 16; ty++ {
			l = append(l, 1<<shift|ty&15, -1<<shift+ty, math.MinInt+ty&15, math.MaxInt-ty&15)
		}
	}
	return slices.DeleteFunc(l, func(ty int) bool { return 1 <= ty && ty <= 15 })
}

// texts is what may be taken for a word: all kinds of it, some words among them.
func texts() []string {
	l := strings.Fields(`enum message oneof repeated reserved loose
rename renumber retype split join wrap unwrap add drop to into as of default true false
int uint sint fixed sfixed int8 int16 int128 uint8 uint16 sint8 fixed16 sfixed16 float float32 float64 double
byte str text boolean bools group map any none null nil type 0 1 7 13 14 15 16 -1 32 64 a A M _ - . ;
int032 int3_2 int_32 int-32 int32; int32= TyInt32 tyint32 api.TyInt32`)
	l = append(l, "", " ", "\t", "\n", "\x00", "\xff", "\u00e9", "int 32", "int32 int32", "int32,int64", "\ufeffint32", strings.Repeat("int32", 1000))
	for _, w := range append(slices.Clone(words), "enum", "message") {
		l = append(l, w, strings.ToUpper(w), strings.ToTitle(w[:1])+w[1:], w+w)
		for at := range len(w) + 1 {
			l = append(l, w[:at], w[at:])
			for _, c := range added() {
				l = append(l, w[:at]+c+w[at:])
			}
		}
		for at := range len(w) {
			l = append(l, w[:at]+w[at+1:], w[:at]+strings.ToUpper(w[at:at+1])+w[at+1:])
			for _, c := range added() {
				l = append(l, w[:at]+c+w[at+1:])
			}
			for bit := range 8 {
				b := []byte(w)
				b[at] ^= 1 << bit
				l = append(l, string(b))
			}
		}
		for _, v := range words {
			l = append(l, w+v, w+" "+v, w[:len(w)/2]+v[len(v)/2:])
		}
	}
	return l
}

// added is what may be laid into a word: letters and digits, blanks, other bytes, characters of more than one byte, and bytes that are no text.
func added() []string {
	l := []string{
		" ", "\t", "\n", "\r", "\v", "\f", "\x00", "\x7f", "_", "-", ".", ";", "'",
		"\u00e9", "\u00df", "\u0131", "\u017f", "\u00a0", "\u2028", "\u212a", "\uff13", "\uff12", "\u0663", "\u0301", "\u200b", "\ufeff", "\ufffd", "\U0001d7db", "\U0001f600",
		"\x80", "\xc3", "\xff", "\xe9", "\xe2\x82", "\xf0\x9f\x98", "\xc1\xa9", "\xed\xa0\x80", "\xf4\x90\x80\x80",
	}
	for c := '0'; c <= 'z'; c++ {
		l = append(l, string(c))
	}
	return l
}

// ofWord is P11.1 of a text: the place of the word among those of the chapter, counted from 1 on.
func ofWord(s string) int {
	return slices.Index(words, s) + 1
}

// marks is which of the marks hold of a type.
func marks(ty int) string {
	var l []string
	for _, m := range []struct {
		name  string
		holds func(int) bool
	}{
		{"whole", scalar.Whole}, {"number", scalar.Number}, {"signed", scalar.Signed}, {"wide", scalar.Wide},
	} {
		if m.holds(ty) {
			l = append(l, m.name)
		}
	}
	return strings.Join(l, " ")
}

// span is the least and the greatest number that a value of the type may have, of 64 bits with a sign or without one.
func span(ty int) (signed bool, least, most *big.Int) {
	power := func(bits uint, more int64) *big.Int {
		n := new(big.Int).Lsh(big.NewInt(1), bits)
		return n.Add(n, big.NewInt(more))
	}
	switch ty {
	case 1, 5, 10, 14:
		return true, new(big.Int).Neg(power(31, 0)), power(31, -1)
	case 2, 6, 11:
		return true, new(big.Int).Neg(power(63, 0)), power(63, -1)
	case 3, 8:
		return false, new(big.Int), power(32, -1)
	case 4, 9:
		return false, new(big.Int), power(64, -1)
	case 7:
		return false, new(big.Int), big.NewInt(1)
	case 12, 13, 15:
		return false, new(big.Int), new(big.Int)
	}
	return false, new(big.Int), big.NewInt(-1)
}

// wanted is P11.2, in numbers without an end.
func wanted(ty int, n uint64) bool {
	signed, least, most := span(ty)
	told := new(big.Int).SetUint64(n)
	if signed && n>>63 == 1 {
		told.Sub(told, new(big.Int).Lsh(big.NewInt(1), 64))
	}
	return least.Cmp(told) <= 0 && told.Cmp(most) <= 0
}

// numbers is those near to 0, those about every power of two, above 0 and below it, and some of all kinds.
func numbers() []uint64 {
	var l []uint64
	for n := range uint64(1000) {
		l = append(l, n, -n)
	}
	for shift := range 64 {
		for d := range uint64(9) {
			n := uint64(1)<<shift + d - 4
			l = append(l, n, -n, 1<<63+n, 1<<32+n, 3<<32+n)
		}
	}
	draw := rand.New(rand.NewSource(11))
	for range 2000 {
		l = append(l, draw.Uint64()>>draw.Intn(64), -(draw.Uint64() >> draw.Intn(64)))
	}
	return l
}

// may tells of which of the numbers May answers otherwise than want.
func may(t *testing.T, ty int, want bool, l ...int64) {
	t.Helper()
	for _, n := range l {
		mayBits(t, ty, want, uint64(n))
	}
}

// mayBits tells of which numbers without a sign May answers otherwise than want.
func mayBits(t *testing.T, ty int, want bool, l ...uint64) {
	t.Helper()
	for _, n := range l {
		if got := scalar.May(ty, n); got != want {
			t.Errorf("May(%d, %d): %t; wanted %t", ty, n, got, want)
		}
	}
}

// P11.1, P11.2: the chapter's example.
func TestExample(t *testing.T) {
	if ty := scalar.Of("sint32"); ty != 5 {
		t.Errorf("Of sint32: %d; wanted 5", ty)
	}
	if wire := scalar.Wire(scalar.Of("sint32")); wire != 0 {
		t.Errorf("Wire of sint32: %d; wanted 0", wire)
	}
	if scalar.May(api.TyInt32, 1<<32-1) {
		t.Error("May(TyInt32, 2^32 - 1): true; wanted false")
	}
}

// P11.1: every type has the number, the word, the wire type and the marks that the chapter tells.
func TestEveryType(t *testing.T) {
	if len(types) != 15 {
		t.Fatalf("%d types; wanted 15", len(types))
	}
	for i, k := range types {
		if k.number != i+1 || k.ty != k.number {
			t.Fatalf("the type %d is told at the place %d, as the type %d", k.ty, i, k.number)
		}
		if w := scalar.Word(k.ty); w != k.word {
			t.Errorf("Word(%d): %q; wanted %q", k.ty, w, k.word)
		}
		if w := scalar.Wire(k.ty); w != k.wire {
			t.Errorf("Wire(%d): %d; wanted %d", k.ty, w, k.wire)
		}
		if m := marks(k.ty); m != k.marks {
			t.Errorf("the type %d is %q; wanted %q", k.ty, m, k.marks)
		}
	}
}

// P11.1: each list of the chapter has just its types, of all that are handed in.
func TestMarksOneByOne(t *testing.T) {
	for _, m := range []struct {
		name  string
		holds func(int) bool
		types []int
	}{
		{"Whole", scalar.Whole, []int{1, 2, 3, 4, 5, 6, 8, 9, 10, 11}},
		{"Number", scalar.Number, []int{1, 2, 3, 4, 5, 6, 7, 8, 9, 10, 11, 14}},
		{"Signed", scalar.Signed, []int{1, 2, 5, 6, 10, 11, 14}},
		{"Wide", scalar.Wide, []int{2, 4, 6, 9, 11}},
	} {
		for ty := -100; ty <= 100; ty++ {
			if got, want := m.holds(ty), slices.Contains(m.types, ty); got != want {
				t.Errorf("%s(%d): %t; wanted %t", m.name, ty, got, want)
			}
		}
	}
}

// P11.1: the wire types are api's, and of each just its types have it; all others, also what is no type, have WireVarint.
func TestWireTypesOneByOne(t *testing.T) {
	special := []struct {
		wire  int
		types []int
	}{
		{api.Wire32, []int{api.TyFixed32, api.TySfixed32}},
		{api.Wire64, []int{api.TyFixed64, api.TySfixed64}},
		{api.WireBytes, []int{api.TyString, api.TyBytes, api.TyMessage}},
	}
	for ty := -100; ty <= 100; ty++ {
		want := api.WireVarint
		for _, k := range special {
			if slices.Contains(k.types, ty) {
				want = k.wire
			}
		}
		if got := scalar.Wire(ty); got != want {
			t.Errorf("Wire(%d): %d; wanted %d", ty, got, want)
		}
	}
}

// P11.1: what is no type has no word, the wire type WireVarint, and no mark.
func TestNoType(t *testing.T) {
	for _, ty := range none() {
		if w := scalar.Word(ty); w != "" {
			t.Errorf("Word(%d): %q", ty, w)
		}
		if w := scalar.Wire(ty); w != api.WireVarint {
			t.Errorf("Wire(%d): %d", ty, w)
		}
		if m := marks(ty); m != "" {
			t.Errorf("the type %d is %q", ty, m)
		}
	}
}

// P11.1: each word is its type's.
func TestOfEveryWord(t *testing.T) {
	for i, w := range words {
		if ty := scalar.Of(w); ty != i+1 {
			t.Errorf("Of(%q): %d; wanted %d", w, ty, i+1)
		}
		// The same text, but not the same bytes of memory.
		if ty := scalar.Of(string([]byte(w))); ty != i+1 {
			t.Errorf("Of(%q), copied: %d; wanted %d", w, ty, i+1)
		}
		if ty := scalar.Of(("x" + w + "x")[1 : len(w)+1]); ty != i+1 {
			t.Errorf("Of(%q), cut out: %d; wanted %d", w, ty, i+1)
		}
	}
}

// P11.1: words that are none, by hand.
func TestOfNoWord(t *testing.T) {
	for _, s := range []string{
		"", "enum", "message", "oneof", "loose", "repeated",
		"int3", "nt32", "int322", "iint32", "int", "int33", "int31", "uint", "sint", "fixed", "sfixed", "ssfixed32", "ufixed32",
		"boo", "ool", "bools", "bbool", "strin", "tring", "strings", "byte", "ytes", "bytess",
		"Int32", "INT32", "Uint64", "Bool", "BOOL", "String", "Bytes", "bytEs", "Sfixed64",
		" int32", "int32 ", "\tint32", "int32\t", "\nint32", "int32\n", " bool", "bool ", " bytes ", "i nt32", "int 32", " ", "\x00", "int32\x00", "\x00int32",
		"\u00efnt32", "int\u0663\u0662", "int\uff13\uff12", "\uff49nt32", "b\u00f6\u00f6l", "by\u0442es", "\u017ftring", "str\u0131ng", "int32\u0301", "int32\u00a0", "\ufeffint32", "\ufffd",
		"\xff", "int32\xff", "\xffint32", "int\xff32", "\xe9nt32", "by\xc1\xb4es", "bool\x80", "int3\xb2",
		"1", "13", "0", "int32int32", "int32 int64", "float", "double",
	} {
		if ty := scalar.Of(s); ty != 0 {
			t.Errorf("Of(%q): %d; wanted 0", s, ty)
		}
	}
}

// P11.1: of texts that are like words, just the words have a type.
func TestOfTextsLikeWords(t *testing.T) {
	hit := map[int]bool{}
	for _, s := range texts() {
		want := ofWord(s)
		if got := scalar.Of(s); got != want {
			t.Fatalf("Of(%q): %d; wanted %d", s, got, want)
		}
		hit[want] = true
	}
	if len(hit) != len(words)+1 {
		t.Errorf("the texts have %d answers; wanted %d", len(hit), len(words)+1)
	}
}

// P11.2: types of 32 bits with a sign, TyEnum among them, at their edges and in the midst.
func TestMayOfSignedTypes(t *testing.T) {
	for _, ty := range []int{api.TyInt32, api.TySint32, api.TySfixed32, api.TyEnum} {
		may(t, ty, true, 0, 1, 2, 5, 300, 1<<16, 123456789, 1<<31-2, 1<<31-1, -1, -2, -5, -300, -1<<16, -123456789, -1<<31+1, -1<<31)
		may(t, ty, false, 1<<31, 1<<31+1, 1<<32-1, 1<<32, 1<<32+1, 1<<33, 1<<33-1, 1<<62, math.MaxInt64, -1<<31-1, -1<<31-2, -1<<32, -1<<32+1, -1<<32-1, -1<<33, math.MinInt64, math.MinInt64+1)
		mayBits(t, ty, true, 1<<64-1, 1<<64-1<<31)
		mayBits(t, ty, false, 1<<63, 1<<63+1, 1<<64-1<<31-1, 1<<63+1<<31, 1<<64-1<<32)
	}
}

// P11.2: types of 32 bits without a sign.
func TestMayOfUnsignedTypes(t *testing.T) {
	for _, ty := range []int{api.TyUint32, api.TyFixed32} {
		may(t, ty, true, 0, 1, 2, 5, 300, 1<<16, 123456789, 1<<31-1, 1<<31, 1<<31+1, 4000000000, 1<<32-2, 1<<32-1)
		may(t, ty, false, 1<<32, 1<<32+1, 1<<33, 1<<33-1, 1<<40, 1<<62, math.MaxInt64, -1, -2, -1<<31, -1<<32, -1<<32+1, math.MinInt64, math.MinInt64+1)
		mayBits(t, ty, false, 1<<63, 1<<63+1, 1<<64-1)
	}
}

// P11.2: of wide types all may be.
func TestMayOfWideTypes(t *testing.T) {
	for _, ty := range []int{api.TyInt64, api.TyUint64, api.TySint64, api.TyFixed64, api.TySfixed64} {
		mayBits(t, ty, true, 0, 1, 2, 300, 1<<31-1, 1<<31, 1<<32-1, 1<<32, 1<<62, 1<<63-1, 1<<63, 1<<63+1, 1<<64-1<<31, 1<<64-1<<31-1, 1<<64-2, 1<<64-1)
		mayBits(t, ty, true, numbers()...)
	}
}

// P11.2: of TyBool 0 and 1, of what is no number 0.
func TestMayOfOtherTypes(t *testing.T) {
	mayBits(t, api.TyBool, true, 0, 1)
	mayBits(t, api.TyBool, false, 2, 3, 255, 256, 257, 1<<31, 1<<32, 1<<32+1, 1<<63-1, 1<<63, 1<<63+1, 1<<64-1)
	for _, ty := range []int{api.TyString, api.TyBytes, api.TyMessage} {
		mayBits(t, ty, true, 0)
		mayBits(t, ty, false, 1, 2, 255, 256, 1<<31, 1<<32-1, 1<<32, 1<<63-1, 1<<63, 1<<64-1)
	}
}

// P11.2: of each type just those that its span has.
func TestMayWordByWord(t *testing.T) {
	l := numbers()
	for ty := -3; ty <= 20; ty++ {
		for _, n := range l {
			if got, want := scalar.May(ty, n), wanted(ty, n); got != want {
				t.Fatalf("May(%d, %d): %t; wanted %t", ty, n, got, want)
			}
		}
	}
}

// P11.2: nothing may be of what is no type.
func TestMayOfNoType(t *testing.T) {
	for _, ty := range none() {
		mayBits(t, ty, false, 0, 1, 2, 1<<31-1, 1<<31, 1<<32-1, 1<<32, 1<<63-1, 1<<63, 1<<64-1)
	}
}

// P11.2: what the marks say of a type is what may be of it.
func TestMayAndMarks(t *testing.T) {
	for _, k := range types {
		if got, want := scalar.May(k.ty, 1), scalar.Number(k.ty); got != want {
			t.Errorf("May(%d, 1): %t, and Number %t", k.ty, got, want)
		}
		if got, want := scalar.May(k.ty, 1<<64-1), scalar.Signed(k.ty) || scalar.Wide(k.ty); got != want {
			t.Errorf("May(%d, -1): %t, and Signed or Wide %t", k.ty, got, want)
		}
		if got, want := scalar.May(k.ty, 1<<40), scalar.Wide(k.ty); got != want {
			t.Errorf("May(%d, 2^40): %t, and Wide %t", k.ty, got, want)
		}
	}
}

// P11.3: a type's word is that type's, and a word's type has that word.
func TestWordsAndTypes(t *testing.T) {
	seen := map[string]int{}
	for ty := 1; ty <= 13; ty++ {
		w := scalar.Word(ty)
		if w == "" {
			t.Errorf("the type %d has no word", ty)
		}
		if other, there := seen[w]; there {
			t.Errorf("the types %d and %d have one word: %q", other, ty, w)
		}
		seen[w] = ty
		if again := scalar.Of(w); again != ty {
			t.Errorf("Of(%q): %d; wanted %d, whose word it is", w, again, ty)
		}
	}
	for _, w := range words {
		if again := scalar.Word(scalar.Of(w)); again != w {
			t.Errorf("Word of Of of %q: %q", w, again)
		}
	}
}

// P11.3: whatever has a word is that word's type, and whatever text has a type is that type's word.
func TestNothingElseHasWords(t *testing.T) {
	for ty := -1000; ty <= 1000; ty++ {
		if w := scalar.Word(ty); w != "" && scalar.Of(w) != ty {
			t.Errorf("Word(%d): %q, of which Of is %d", ty, w, scalar.Of(w))
		}
	}
	for _, s := range texts() {
		if ty := scalar.Of(s); ty != 0 && scalar.Word(ty) != s {
			t.Errorf("Of(%q): %d, of which Word is %q", s, ty, scalar.Word(ty))
		}
	}
}

// P11.1, P11.2: what a call answers hangs on its arguments alone.
func TestAskedAgain(t *testing.T) {
	told := func(ty int) string {
		s := scalar.Word(ty) + " " + marks(ty)
		for _, n := range []int{scalar.Of(scalar.Word(ty)), scalar.Wire(ty)} {
			s += " " + strconv.Itoa(n)
		}
		for _, n := range []uint64{0, 1, 2, 1 << 31, 1 << 32, 1 << 63, 1<<64 - 1} {
			s += " " + strconv.FormatBool(scalar.May(ty, n))
		}
		return s
	}
	first := map[int]string{}
	for ty := -2; ty <= 18; ty++ {
		first[ty] = told(ty)
	}
	for range 3 {
		for ty := 18; ty >= -2; ty-- {
			if again := told(ty); again != first[ty] {
				t.Errorf("the type %d: %q, and asked again %q", ty, first[ty], again)
			}
		}
	}
}
