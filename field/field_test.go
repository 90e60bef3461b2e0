package field_test

import (
	"math"
	"slices"
	"strconv"
	"strings"
	"testing"

	"ecdysis/api"
	"ecdysis/field"
	"ecdysis/lex"
)

// types is the 15 types, with what P14.1 and P14.2 ask of them, worked out by hand: the word in a text (the field's Ref here is E, of an enum, and M, of a message), and whether it is a number type.
var types = []struct {
	ty     int
	ref    string
	word   string
	number bool
}{
	{api.TyInt32, "", "int32", true},
	{api.TyInt64, "", "int64", true},
	{api.TyUint32, "", "uint32", true},
	{api.TyUint64, "", "uint64", true},
	{api.TySint32, "", "sint32", true},
	{api.TySint64, "", "sint64", true},
	{api.TyBool, "", "bool", true},
	{api.TyFixed32, "", "fixed32", true},
	{api.TyFixed64, "", "fixed64", true},
	{api.TySfixed32, "", "sfixed32", true},
	{api.TySfixed64, "", "sfixed64", true},
	{api.TyString, "", "string", false},
	{api.TyBytes, "", "bytes", false},
	{api.TyEnum, "E", "E", true},
	{api.TyMessage, "M", "M", false},
}

// none is what is no type.
var none = []int{
	0, -1, -2, -7, -14, -15, -16, 16, 17, 30, 31, 100, 255, 256, 257, 1<<16 + 1, 1<<31 + 14, 1<<32 + 1, 1<<32 + 7, 1<<32 + 14, 1<<32 + 15, 1<<62 + 15,
	-1<<32 + 1, -1<<32 + 14, math.MinInt, math.MinInt + 1, math.MinInt + 14, math.MinInt + 15, math.MaxInt - 1, math.MaxInt,
}

// words is those of the languages, as P9.1 has them.
var words = strings.Split("enum, message, oneof, repeated, reserved, loose, int32, int64, uint32, uint64, sint32, sint64, bool, fixed32, fixed64, sfixed32, sfixed64, string, bytes, rename, renumber, retype, split, join, wrap, unwrap, add, drop, to, into, as, of, default, true, false", ", ")

// names is some of all kinds: of one letter, and of the greatest length among them.
var names = strings.Fields("a z A Z b M E o x1 a_1 a_ aB Ab snake_case abcdefghijk abcdefghijkl ABCDEFGHIJKL zzzzzzzzzzzz a00000000000 a___________ Int32 Enum ints bool_ message1 loose2 package option map float double")

// wrong is texts that are no names, the empty one left out.
var wrong = slices.Concat(words, []string{
	"1", "0", "_", "1a", "_a", "9a", "abcdefghijklm", "aaaaaaaaaaaaa", strings.Repeat("a", 100), "a b", " a", "a ", "\ta", "a\n", "a\x00", "\x00", " ",
	"a-b", "a.b", "a;", "a=", "'a'", "{", "a//", "-1", "a\u00e9", "\u00e9", "\u00e9a", "\u0131", "\uff41", "\u4e61", "\xff", "a\xff", "\xc1\xa1", "\ufeffa", "a\u0301",
})

// numbers is those that a field may have, by hand: the edges, and some in the midst.
var numbers = []int{1, 2, 3, 7, 10, 15, 16, 127, 128, 1000, 2047, 2048, 9999, 10000, 18990, 18998, 18999, 20000, 20001, 65535, 65536, 99999, 1 << 20, 1<<28 - 1, 1 << 28, 1<<29 - 2, 1<<29 - 1}

// odd is those that no field may have.
var odd = []int{
	0, -1, -2, -100, -18999, -19500, -20000, -1<<29 + 1, -1 << 29, 19000, 19001, 19499, 19500, 19998, 19999, 1 << 29, 1<<29 + 1, 1 << 30, 1<<31 - 1, 1 << 31, 1<<32 + 1, 1<<32 + 20000, 1<<61 + 1,
	-1<<32 + 1, math.MinInt, math.MinInt + 1, math.MaxInt - 1, math.MaxInt,
}

// told is a field, as a failed test tells it.
func told(f api.Field) string {
	return "{" + strconv.Quote(f.Name) + " " + strconv.Itoa(f.Num) + " " + strconv.Itoa(f.Type) + " " + strconv.Quote(f.Ref) +
		" Rep " + strconv.FormatBool(f.Rep) + " Loose " + strconv.FormatBool(f.Loose) + " One " + strconv.Quote(f.One) + "}"
}

// may tells if the field is told not to be one, or has another text.
func may(t *testing.T, f api.Field, text string) {
	t.Helper()
	if e := field.Check(f); e != api.OK {
		t.Errorf("Check(%s): %d; wanted 0", told(f), e)
	}
	if got := field.Text(f); got != text {
		t.Errorf("Text(%s): %q; wanted %q", told(f), got, text)
	}
}

// refused tells if the field is not refused with that error, or has a text.
func refused(t *testing.T, f api.Field, want api.Errno) {
	t.Helper()
	if e := field.Check(f); e != want {
		t.Errorf("Check(%s): %d; wanted %d", told(f), e, want)
	}
	if got := field.Text(f); got != "" {
		t.Errorf("Text(%s): %q; wanted none", told(f), got)
	}
}

// ways tells if the field is Packed or Hidden otherwise than that.
func ways(t *testing.T, f api.Field, packed, hidden bool) {
	t.Helper()
	if got := field.Packed(f); got != packed {
		t.Errorf("Packed(%s): %t", told(f), got)
	}
	if got := field.Hidden(f); got != hidden {
		t.Errorf("Hidden(%s): %t", told(f), got)
	}
}

// name tells whether s is one, by the lists of this test alone.
func name(s string) bool {
	switch {
	case slices.Contains(names, s):
		return true
	case s == "", slices.Contains(wrong, s):
		return false
	}
	panic(s)
}

// number tells whether a field may have that number, by the lists of this test alone.
func number(n int) bool {
	switch {
	case slices.Contains(numbers, n):
		return true
	case slices.Contains(odd, n):
		return false
	}
	panic(n)
}

// numeric tells whether ty is a number type.
func numeric(ty int) bool {
	return 1 <= ty && ty <= 15 && types[ty-1].number
}

// faults is all that P14.1 has against the field, as errors.
func faults(f api.Field) []api.Errno {
	var l []api.Errno
	put := func(e api.Errno, so bool) {
		if so {
			l = append(l, e)
		}
	}
	named := f.Type == 14 || f.Type == 15
	put(1, f.Loose && (!f.Rep || !numeric(f.Type)))
	put(1, f.Rep && f.One != "")
	put(1, f.Type < 1 || 15 < f.Type)
	put(1, !number(f.Num))
	put(2, !named && f.Ref != "")
	put(2, named && !name(f.Ref))
	put(2, f.One != "" && !name(f.One))
	put(2, !name(f.Name))
	return l
}

// wanted is what Check has to answer: of two faults the one of a text.
func wanted(f api.Field) api.Errno {
	l := faults(f)
	switch {
	case slices.Contains(l, 2):
		return 2
	case slices.Contains(l, 1):
		return 1
	}
	return 0
}

// text is what Text has to answer.
func text(f api.Field) string {
	if wanted(f) != 0 {
		return ""
	}
	l := []string{types[f.Type-1].word, f.Name, "=", strconv.Itoa(f.Num) + ";"}
	if f.Ref != "" {
		l[0] = f.Ref
	}
	if f.Loose {
		l = slices.Insert(l, 0, "loose")
	} else if f.Rep {
		l = slices.Insert(l, 0, "repeated")
	}
	return strings.Join(l, " ")
}

// all is fields of each name with each number, type, ref and oneof of a choice, which has right ones and wrong ones of each.
func all(yield func(api.Field) bool) {
	bools := []bool{false, true}
	tys := append([]int{0, -1, 16, 1<<32 + 1, math.MinInt, math.MaxInt}, 1, 2, 3, 4, 5, 6, 7, 8, 9, 10, 11, 12, 13, 14, 15)
	for _, name := range []string{"a", "abcdefghijkl", "", "1a", "abcdefghijklm", "int32"} {
		for _, num := range []int{1, 18999, 20000, 1<<29 - 1, 0, -1, 19000, 19999, 1 << 29, math.MaxInt} {
			for _, ty := range tys {
				for _, ref := range []string{"", "M", "a_1", "1a", "message"} {
					for _, one := range []string{"", "o", "a", "1a", "to"} {
						for _, rep := range bools {
							for _, loose := range bools {
								if !yield(api.Field{Name: name, Num: num, Type: ty, Ref: ref, Rep: rep, Loose: loose, One: one}) {
									return
								}
							}
						}
					}
				}
			}
		}
	}
}

// P14.1, P14.2: the chapter's example.
func TestExample(t *testing.T) {
	f := api.Field{Name: "a", Num: 1, Type: api.TyInt32, Rep: true}
	may(t, f, "repeated int32 a = 1;")
	ways(t, f, true, false)
}

// P14.1, P14.2: fields of each type, in each way that there may be, with their texts.
func TestEveryType(t *testing.T) {
	for i, k := range types {
		if k.ty != i+1 {
			t.Fatalf("the type %d is at the place %d", k.ty, i)
		}
		f := api.Field{Name: "a", Num: 300, Type: k.ty, Ref: k.ref}
		may(t, f, k.word+" a = 300;")
		ways(t, f, false, k.ty != api.TyMessage)

		in := f
		in.One = "o"
		may(t, in, k.word+" a = 300;")
		ways(t, in, false, false)

		rep := f
		rep.Rep = true
		may(t, rep, "repeated "+k.word+" a = 300;")
		ways(t, rep, k.number, false)

		loose := rep
		loose.Loose = true
		if k.number {
			may(t, loose, "loose "+k.word+" a = 300;")
		} else {
			refused(t, loose, api.ErrArg)
		}
		ways(t, loose, false, false)
	}
}

// P14.1, P14.2: whole texts, by hand.
func TestKnownTexts(t *testing.T) {
	for _, k := range []struct {
		f    api.Field
		text string
	}{
		{api.Field{Name: "a", Num: 1, Type: api.TyInt32}, "int32 a = 1;"},
		{api.Field{Name: "a", Num: 1, Type: api.TyInt32, Rep: true}, "repeated int32 a = 1;"},
		{api.Field{Name: "a", Num: 1, Type: api.TyInt32, Rep: true, Loose: true}, "loose int32 a = 1;"},
		{api.Field{Name: "a", Num: 1, Type: api.TyInt32, One: "o"}, "int32 a = 1;"},
		{api.Field{Name: "Z_9", Num: 536870911, Type: api.TySfixed64, Rep: true, Loose: true}, "loose sfixed64 Z_9 = 536870911;"},
		{api.Field{Name: "abcdefghijkl", Num: 18999, Type: api.TyBytes, Rep: true}, "repeated bytes abcdefghijkl = 18999;"},
		{api.Field{Name: "w", Num: 20000, Type: api.TyMessage, Ref: "W"}, "W w = 20000;"},
		{api.Field{Name: "w", Num: 2, Type: api.TyMessage, Ref: "ABCDEFGHIJKL", Rep: true}, "repeated ABCDEFGHIJKL w = 2;"},
		{api.Field{Name: "w", Num: 2, Type: api.TyMessage, Ref: "w", One: "w"}, "w w = 2;"},
		{api.Field{Name: "c", Num: 100, Type: api.TyEnum, Ref: "Color"}, "Color c = 100;"},
		{api.Field{Name: "c", Num: 100, Type: api.TyEnum, Ref: "Color", Rep: true}, "repeated Color c = 100;"},
		{api.Field{Name: "c", Num: 100, Type: api.TyEnum, Ref: "Color", Rep: true, Loose: true}, "loose Color c = 100;"},
		{api.Field{Name: "b", Num: 10, Type: api.TyBool, Rep: true, Loose: true}, "loose bool b = 10;"},
		{api.Field{Name: "s", Num: 16, Type: api.TyString, One: "choice"}, "string s = 16;"},
	} {
		may(t, k.f, k.text)
	}
}

// P14.1, P14.2: a field's name is a name.
func TestNames(t *testing.T) {
	for _, k := range types {
		for _, s := range names {
			may(t, api.Field{Name: s, Num: 1, Type: k.ty, Ref: k.ref}, k.word+" "+s+" = 1;")
		}
		for _, s := range append([]string{""}, wrong...) {
			refused(t, api.Field{Name: s, Num: 1, Type: k.ty, Ref: k.ref}, api.ErrText)
		}
	}
}

// P14.1, P14.2: a field's oneof is a name, or there is none; the text does not tell it.
func TestOneofs(t *testing.T) {
	for _, k := range types {
		f := api.Field{Name: "a", Num: 1, Type: k.ty, Ref: k.ref}
		for _, s := range append([]string{""}, names...) {
			f.One = s
			may(t, f, k.word+" a = 1;")
			ways(t, f, false, s == "" && k.ty != api.TyMessage)
		}
		for _, s := range wrong {
			f.One = s
			refused(t, f, api.ErrText)
			ways(t, f, false, false)
		}
	}
}

// P14.1, P14.2: an enum's and a message's field has a Ref that is a name.
func TestRefs(t *testing.T) {
	for _, ty := range []int{api.TyEnum, api.TyMessage} {
		for _, s := range names {
			may(t, api.Field{Name: "a", Num: 1, Type: ty, Ref: s}, s+" a = 1;")
			may(t, api.Field{Name: "a", Num: 1, Type: ty, Ref: s, Rep: true}, "repeated "+s+" a = 1;")
		}
		for _, s := range append([]string{""}, wrong...) {
			refused(t, api.Field{Name: "a", Num: 1, Type: ty, Ref: s}, api.ErrText)
			refused(t, api.Field{Name: "a", Num: 1, Type: ty, Ref: s, Rep: true}, api.ErrText)
		}
	}
}

// P14.1: of each other type, also of what is no type, there is no Ref, whether or not it is a name.
func TestNoRefs(t *testing.T) {
	others := slices.Clone(none)
	for ty := 1; ty <= 13; ty++ {
		others = append(others, ty)
	}
	for _, ty := range others {
		for _, s := range slices.Concat(names, wrong) {
			refused(t, api.Field{Name: "a", Num: 1, Type: ty, Ref: s}, api.ErrText)
			refused(t, api.Field{Name: "a", Num: 1, Type: ty, Ref: s, Rep: true}, api.ErrText)
		}
	}
}

// P14.1, P14.2: which numbers a field may have.
func TestNumbers(t *testing.T) {
	for _, k := range types {
		f := api.Field{Name: "a", Type: k.ty, Ref: k.ref}
		for _, n := range numbers {
			f.Num = n
			may(t, f, k.word+" a = "+strconv.Itoa(n)+";")
		}
		for _, n := range odd {
			f.Num = n
			refused(t, f, api.ErrArg)
		}
	}
	for n := 19000; n <= 19999; n++ {
		refused(t, api.Field{Name: "a", Num: n, Type: api.TyInt32}, api.ErrArg)
	}
	for n := 1; n < 19000; n++ {
		may(t, api.Field{Name: "a", Num: n, Type: api.TyInt32}, "int32 a = "+strconv.Itoa(n)+";")
	}
}

// P14.1, P14.2: what is no type has no field; it is no number type, and no message.
func TestNoTypes(t *testing.T) {
	for _, ty := range none {
		f := api.Field{Name: "a", Num: 1, Type: ty}
		refused(t, f, api.ErrArg)
		ways(t, f, false, true)
		f.Rep = true
		refused(t, f, api.ErrArg)
		ways(t, f, false, false)
		f.Loose = true
		refused(t, f, api.ErrArg)
		ways(t, f, false, false)
		f.Rep, f.Loose, f.One = false, false, "o"
		refused(t, f, api.ErrArg)
		ways(t, f, false, false)
	}
}

// P14.1: what is Rep is in no oneof, and what is Loose is Rep, and of a number type.
func TestRepAndLoose(t *testing.T) {
	for _, k := range types {
		f := api.Field{Name: "a", Num: 1, Type: k.ty, Ref: k.ref}
		f.Rep, f.Loose, f.One = true, false, "o"
		refused(t, f, api.ErrArg)
		f.Rep, f.Loose, f.One = true, true, "o"
		refused(t, f, api.ErrArg)
		f.Rep, f.Loose, f.One = false, true, ""
		refused(t, f, api.ErrArg)
		f.Rep, f.Loose, f.One = false, true, "o"
		refused(t, f, api.ErrArg)
	}
	for _, k := range types {
		f := api.Field{Name: "a", Num: 1, Type: k.ty, Ref: k.ref, Rep: true, Loose: true}
		if k.number {
			may(t, f, "loose "+k.word+" a = 1;")
		} else {
			refused(t, f, api.ErrArg)
		}
	}
}

// P14.1: of a fault of a text and one of another kind, the text's is told, whichever they are.
func TestOrderOfFaults(t *testing.T) {
	texts := []func(f *api.Field){
		func(f *api.Field) { f.Name = "" },
		func(f *api.Field) { f.Name = "1a" },
		func(f *api.Field) { f.Name = "repeated" },
		func(f *api.Field) { f.Name = "abcdefghijklm" },
		func(f *api.Field) { f.One = "1a" },
		func(f *api.Field) { f.One = "oneof" },
		func(f *api.Field) { f.Type, f.Ref = api.TyEnum, "" },
		func(f *api.Field) { f.Type, f.Ref = api.TyMessage, "" },
		func(f *api.Field) { f.Type, f.Ref = api.TyMessage, "message" },
		func(f *api.Field) { f.Ref = "M" },
		func(f *api.Field) { f.Ref = "1a" },
	}
	others := []func(f *api.Field){
		func(f *api.Field) { f.Num = 0 },
		func(f *api.Field) { f.Num = -1 },
		func(f *api.Field) { f.Num = 19000 },
		func(f *api.Field) { f.Num = 1 << 29 },
		func(f *api.Field) { f.Rep, f.One = true, "o" },
		func(f *api.Field) { f.Loose = true },
		func(f *api.Field) { f.Rep, f.Loose, f.Type, f.Ref = true, true, api.TyString, "" },
		func(f *api.Field) { f.Rep, f.Loose, f.Type, f.Ref = true, true, api.TyMessage, "M" },
		func(f *api.Field) { f.Type, f.Ref = 0, "" },
		func(f *api.Field) { f.Type, f.Ref = 16, "" },
	}
	right := api.Field{Name: "a", Num: 1, Type: api.TyInt32}
	may(t, right, "int32 a = 1;")
	for _, text := range texts {
		one := right
		text(&one)
		refused(t, one, api.ErrText)
		for _, other := range others {
			// The fault of the text is made last: so the other one does not undo it. (A message's field may have the Ref M: there that is no fault.)
			both := right
			other(&both)
			refused(t, both, api.ErrArg)
			text(&both)
			refused(t, both, wanted(both))
		}
	}
	for _, one := range others {
		for _, other := range others {
			both := right
			one(&both)
			other(&both)
			refused(t, both, api.ErrArg)
		}
	}
}

// P14.1: fields with many faults at once, by hand.
func TestManyFaults(t *testing.T) {
	for _, k := range []struct {
		f    api.Field
		want api.Errno
	}{
		{api.Field{}, api.ErrText},
		{api.Field{Name: "a"}, api.ErrArg},
		{api.Field{Name: "a", Num: 1}, api.ErrArg},
		{api.Field{Name: "a", Type: 1}, api.ErrArg},
		{api.Field{Num: 1, Type: 1}, api.ErrText},
		{api.Field{Name: "a", Ref: "M"}, api.ErrText},
		{api.Field{Name: "a", Type: 14}, api.ErrText},
		{api.Field{Name: "a", Type: 15, Num: -1, Rep: true, Loose: true, One: "o"}, api.ErrText},
		{api.Field{Name: "a", Type: 15, Num: -1, Ref: "M", Rep: true, Loose: true, One: "o"}, api.ErrArg},
		{api.Field{Name: "a", Type: 99, Num: 19500, Rep: true, Loose: true, One: "to"}, api.ErrText},
		{api.Field{Name: "a", Type: 99, Num: 19500, Rep: true, Loose: true, One: "o"}, api.ErrArg},
		{api.Field{Name: "a", Type: 99, Num: 19500, Loose: true, Ref: "M"}, api.ErrText},
		{api.Field{Name: "to", Type: -3, Num: 1 << 40, Ref: "to", Rep: true, Loose: true, One: "to"}, api.ErrText},
	} {
		refused(t, k.f, k.want)
	}
}

// P14.2: whether a field may be has no say in whether it is Packed or Hidden.
func TestPackedAndHiddenOfWrongFields(t *testing.T) {
	for _, k := range types {
		for _, f := range []api.Field{
			{Type: k.ty},
			{Name: "1a", Num: 1, Type: k.ty, Ref: k.ref},
			{Name: "a", Num: 19500, Type: k.ty, Ref: k.ref},
			{Name: "a", Num: -1, Type: k.ty, Ref: "1a"},
			{Name: "a", Num: 1, Type: k.ty, Ref: "message"},
		} {
			ways(t, f, false, k.ty != 15)
			f.Loose = true
			ways(t, f, false, k.ty != 15)
			f.One = "1a"
			ways(t, f, false, false)
			f.Rep = true
			ways(t, f, false, false)
			f.Loose = false
			ways(t, f, k.number, false)
			f.One = ""
			ways(t, f, k.number, false)
		}
	}
}

// P14.1, P14.2, P14.3: each function, of fields with all kinds of parts, right and wrong, beside one another.
func TestEveryField(t *testing.T) {
	count := map[api.Errno]int{}
	for f := range all {
		want := wanted(f)
		count[want]++
		if want == api.OK {
			may(t, f, text(f))
		} else {
			refused(t, f, want)
		}
		ways(t, f, f.Rep && !f.Loose && numeric(f.Type), !f.Rep && f.One == "" && f.Type != 15)
		if field.Packed(f) && field.Hidden(f) {
			t.Errorf("%s is both Packed and Hidden", told(f))
		}
		if t.Failed() {
			return
		}
	}
	if count[api.OK] < 100 || count[api.ErrText] < 100 || count[api.ErrArg] < 100 {
		t.Errorf("so many fields by what Check answers: %v", count)
	}
}

// P14.1, P14.2: a field which may be, with its oneof empty, still may be, and has the same text; made Loose, what is Packed still may be, and is not Packed.
func TestWhatStillMayBe(t *testing.T) {
	var ones, packed int
	for f := range all {
		if field.Check(f) != api.OK {
			continue
		}
		if f.One != "" {
			out := f
			out.One = ""
			may(t, out, field.Text(f))
			ones++
		}
		if field.Packed(f) {
			loose := f
			loose.Loose = true
			may(t, loose, "loose "+strings.TrimPrefix(field.Text(f), "repeated "))
			ways(t, loose, false, false)
			packed++
		}
		if t.Failed() {
			return
		}
	}
	if ones < 10 || packed < 10 {
		t.Errorf("%d fields of oneofs, %d Packed ones", ones, packed)
	}
}

// P14.2: a text is the tokens of the field, with just one blank behind each but the last two.
func TestTextsAreTokens(t *testing.T) {
	for f := range all {
		s := field.Text(f)
		if s == "" {
			continue
		}
		l, _, e := lex.All(s, api.MaxText)
		if e != api.OK {
			t.Fatalf("Text(%s): %q, which is no tokens", told(f), s)
		}
		want := []lex.Token{{Kind: lex.Name, S: f.Name}, {Kind: lex.Mark, S: "="}, {Kind: lex.Number, N: uint64(f.Num)}, {Kind: lex.Mark, S: ";"}, {Kind: lex.End}}
		got := slices.Clone(l[len(l)-len(want):])
		for i := range got {
			got[i].At = 0
		}
		if !slices.Equal(got, want) {
			t.Fatalf("Text(%s): %q, whose last tokens are %v", told(f), s, got)
		}
		ahead := len(l) - len(want)
		if rep := ahead == 2; rep != f.Rep || ahead != 1 && ahead != 2 {
			t.Fatalf("Text(%s): %q, with %d tokens ahead of the name", told(f), s, ahead)
		}
		if blanks := strings.Count(s, " "); blanks != ahead+2 || strings.ContainsAny(s, "\t\n") {
			t.Fatalf("Text(%s): %q, with %d blanks", told(f), s, blanks)
		}
	}
}

// P14.2: fields that may be and have one text are the same but for their oneofs, and for whether a Ref is an enum's or a message's.
func TestUnlikeTexts(t *testing.T) {
	seen := map[string]api.Field{}
	for f := range all {
		s := field.Text(f)
		if s == "" {
			continue
		}
		f.One = ""
		if f.Ref != "" {
			f.Type = api.TyEnum
		}
		if other, there := seen[s]; there && other != f {
			t.Fatalf("%s and %s have one text: %q", told(other), told(f), s)
		}
		seen[s] = f
	}
}

// P14.1, P14.2: what a call answers hangs on its argument alone.
func TestAskedAgain(t *testing.T) {
	type answers struct {
		e              api.Errno
		packed, hidden bool
		text           string
	}
	ask := func(f api.Field) answers {
		return answers{field.Check(f), field.Packed(f), field.Hidden(f), field.Text(f)}
	}
	var fields []api.Field
	var first []answers
	for f := range all {
		fields = append(fields, f)
		first = append(first, ask(f))
	}
	for i := len(fields) - 1; i >= 0; i-- {
		if again := ask(fields[i]); again != first[i] {
			t.Fatalf("%s: %v, and asked again %v", told(fields[i]), first[i], again)
		}
	}
}
