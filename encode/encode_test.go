package encode_test

import (
	"bytes"
	"encoding/hex"
	"fmt"
	"math"
	"math/rand"
	"slices"
	"strconv"
	"strings"
	"sync"
	"testing"

	"ecdysis/api"
	"ecdysis/encode"
	"ecdysis/fix"
	"ecdysis/num"
	"ecdysis/raw"
	"ecdysis/schema"
	"ecdysis/tree"
	"ecdysis/valid"
	"ecdysis/varint"
)

// good is a schema that may be: fields of all kinds, two oneofs in one message whose fields do not stand side by side, messages in a chain, in a ring, and of themselves, and one without a field. It is made anew each time.
func good() api.Schema {
	return api.Schema{
		Enums: []api.Enum{{Name: "Color", Values: []api.Value{{Name: "red"}, {Name: "blue", Num: 3}}}},
		Messages: []api.Message{
			{Name: "Order", Fields: []api.Field{
				{Name: "id", Num: 1, Type: api.TyUint64},
				{Name: "text", Num: 2, Type: api.TyString, One: "pick"},
				{Name: "item", Num: 4, Type: api.TyMessage, Ref: "Item", Rep: true},
				{Name: "amount", Num: 6, Type: api.TySint32, One: "pick"},
				{Name: "color", Num: 7, Type: api.TyEnum, Ref: "Color"},
				{Name: "spare", Num: 8, Type: api.TyMessage, Ref: "Item", One: "other"},
				{Name: "sole", Num: 9, Type: api.TyMessage, Ref: "Note"},
				{Name: "words", Num: 10, Type: api.TyString, Rep: true},
				{Name: "blob", Num: 20000, Type: api.TyBytes, One: "pick"},
				{Name: "last", Num: api.MaxNum, Type: api.TyInt32, Rep: true, Loose: true},
			}, Barred: []int{3, 5, 19000}},
			{Name: "Box", Fields: []api.Field{
				{Name: "next", Num: 1, Type: api.TyMessage, Ref: "Item", One: "pick"},
				{Name: "none", Num: 3, Type: api.TyBool, One: "pick"},
				{Name: "fix", Num: 5, Type: api.TySfixed64},
				{Name: "small", Num: 6, Type: api.TyFixed32, Rep: true},
			}},
			{Name: "Item", Fields: []api.Field{
				{Name: "size", Num: 1, Type: api.TyEnum, Ref: "Color", Rep: true},
				{Name: "note", Num: 2, Type: api.TyMessage, Ref: "Note"},
				{Name: "box", Num: 3, Type: api.TyMessage, Ref: "Box"},
				{Name: "flag", Num: 11, Type: api.TyBool},
				{Name: "name", Num: 12, Type: api.TyString},
				{Name: "raw", Num: 13, Type: api.TyBytes},
			}},
			{Name: "Note"},
			{Name: "Ring", Fields: []api.Field{
				{Name: "ring", Num: 1, Type: api.TyMessage, Ref: "Ring"},
				{Name: "text", Num: 2, Type: api.TyBytes},
				{Name: "rings", Num: 3, Type: api.TyMessage, Ref: "Ring", Rep: true},
				{Name: "flags", Num: 4, Type: api.TyBool, Rep: true},
				{Name: "bits", Num: 5, Type: api.TyBool, Rep: true, Loose: true},
				{Name: "texts", Num: 6, Type: api.TyBytes, Rep: true},
			}},
		},
	}
}

// full is a value of Order that has all there can be: fields of all kinds, each repeated one with several values, messages four deep, oneofs with a field, also within one another, fields of Rest, also within. It is made anew each time.
func full() api.Tree {
	box := api.Tree{
		Slots: []api.Slot{slot(1, m(of(slot(1, n(7)), slot(11, n(1))))), slot(5, n(math.MaxUint64)), slot(6, n(1), n(2))},
		Rest:  []api.Raw{{Num: 2, Wire: api.WireBytes, S: "in a box"}, {Num: 9, Wire: api.Wire32, N: math.MaxUint32}},
	}
	item := api.Tree{
		Slots: []api.Slot{slot(1, n(0), n(3), n(math.MaxUint64)), slot(2, m(rest(api.Raw{Num: 1, N: 5}))), slot(3, m(box)), slot(11, n(1)), slot(12, s("é")), slot(13, s("\xff"))},
		Rest:  []api.Raw{{Num: 4, N: 1}, {Num: 4, N: 1}, {Num: 20000, Wire: api.Wire64, N: math.MaxUint64}},
	}
	return api.Tree{
		Slots: []api.Slot{slot(1, n(5)), slot(4, m(item), m(api.Tree{}), m(of(slot(3, m(of(slot(3, n(0)))))))), slot(6, n(0)), slot(7, n(77)), slot(8, m(of(slot(12, s("x"))))), slot(9, m(api.Tree{})), slot(10, s(""), s("a"), s("")), slot(api.MaxNum, n(0), n(1<<31-1))},
		Rest:  []api.Raw{{Num: 3, N: 8}, {Num: 19000, Wire: api.WireBytes, S: "barred"}, {Num: 11, Wire: api.WireBytes}, {Num: 3, Wire: api.Wire32}},
	}
}

// of is a tree of those slots.
func of(slots ...api.Slot) api.Tree {
	return api.Tree{Slots: slots}
}

// slot is a slot of those values.
func slot(num int, vals ...api.Val) api.Slot {
	return api.Slot{Num: num, Vals: vals}
}

// rest is a tree of no slots and those fields.
func rest(l ...api.Raw) api.Tree {
	return api.Tree{Rest: l}
}

// n is the value that is a number.
func n(u uint64) api.Val {
	return api.Val{N: u}
}

// s is the value that is a text.
func s(text string) api.Val {
	return api.Val{S: text}
}

// m is the value that is those trees.
func m(l ...api.Tree) api.Val {
	return api.Val{M: l}
}

// one is a schema of a message M with those fields, of a message N with a field of each of the types uint32 and N, and of an enum.
func one(fields ...api.Field) api.Schema {
	return api.Schema{
		Enums:    []api.Enum{{Name: "E", Values: []api.Value{{Name: "x"}, {Name: "y", Num: 3}}}},
		Messages: []api.Message{{Name: "M", Fields: fields}, {Name: "N", Fields: []api.Field{{Name: "a", Num: 1, Type: api.TyUint32}, {Name: "n", Num: 2, Type: api.TyMessage, Ref: "N"}}}},
	}
}

// typed is a field of that type; of TyMessage its message is N.
func typed(num, ty int) api.Field {
	f := api.Field{Name: "f" + strconv.Itoa(num), Num: num, Type: ty}
	if ty == api.TyEnum {
		f.Ref = "E"
	}
	if ty == api.TyMessage {
		f.Ref = "N"
	}
	return f
}

// in is the field in a oneof.
func in(f api.Field) api.Field {
	f.One = "o"
	return f
}

// many is the field with many values.
func many(f api.Field) api.Field {
	f.Rep = true
	return f
}

// loose is the field with many values, which are written one by one.
func loose(f api.Field) api.Field {
	f.Rep, f.Loose = true, true
	return f
}

// bits is the bytes that these digits tell, two each; blanks are left out.
func bits(digits string) string {
	b, err := hex.DecodeString(strings.ReplaceAll(digits, " ", ""))
	if err != nil {
		panic(err)
	}
	return string(b)
}

// short is the text, if it is not too long to be told.
func short(s string) string {
	if len(s) > 3000 {
		return s[:3000] + " .."
	}
	return s
}

// puts asks for just those bytes.
func puts(t *testing.T, x api.Schema, name string, y api.Tree, want string) {
	t.Helper()
	b, e := encode.Put(x, name, y)
	if e != api.OK || string(b) != want {
		t.Fatal(short(fmt.Sprintf("Put of %s and %+v: % x, %v; wanted % x; the schema: %+v", name, y, b, e, want, x)))
	}
}

// fails asks for just that error, and no bytes beside it.
func fails(t *testing.T, what string, x api.Schema, name string, y api.Tree, want api.Errno) {
	t.Helper()
	b, e := encode.Put(x, name, y)
	if e != want || len(b) > 0 {
		t.Fatal(short(fmt.Sprintf("%s: Put of %s: %d bytes, %v; wanted none, and %v; the tree: %+v", what, name, len(b), e, want, y)))
	}
}

// packs asks for just those bytes.
func packs(t *testing.T, f api.Field, l []uint64, want string) {
	t.Helper()
	if got := encode.Pack(f, l); got != want {
		t.Fatal(short(fmt.Sprintf("Pack of %+v and %d: % x; wanted % x", f, l, got, want)))
	}
}

// P21.2: the chapter's example.
func TestExample(t *testing.T) {
	puts(t, one(typed(1, api.TyInt32)), "M", of(slot(1, n(300))), bits("08 ac 02"))
}

// The schema of these tests may be, and their tree has what it should.
func TestGood(t *testing.T) {
	if e := schema.Check(good()); e != api.OK {
		t.Errorf("the schema: %v", e)
	}
	if deep := tree.Deep(full()); deep != 4 || !valid.Tree(good(), "Order", full()) {
		t.Errorf("the tree is %d deep, or no value", deep)
	}
}

// sample is a value, and the bytes that it has behind the tag.
type sample struct {
	v    api.Val
	wire string
}

const (
	ones  = "ff ff ff ff ff ff ff ff ff 01" // 2^64 - 1, as a number of seven bits a byte
	minus = math.MaxUint64                  // -1
	least = math.MaxUint64 - 1<<31 + 1      // -2^31
	most  = 1<<31 - 1
)

// samples is values of the type, the least and the greatest ones among them, with their bytes, worked out by hand. The first one is not 0, nor empty.
func samples(ty int) []sample {
	switch ty {
	case api.TyInt32, api.TyEnum:
		return []sample{{n(300), "ac 02"}, {n(0), "00"}, {n(1), "01"}, {n(127), "7f"}, {n(128), "80 01"}, {n(most), "ff ff ff ff 07"}, {n(minus), ones}, {n(least), "80 80 80 80 f8 ff ff ff ff 01"}}
	case api.TyInt64:
		return []sample{{n(1 << 32), "80 80 80 80 10"}, {n(0), "00"}, {n(1), "01"}, {n(most), "ff ff ff ff 07"}, {n(1<<63 - 1), "ff ff ff ff ff ff ff ff 7f"}, {n(minus), ones}, {n(least), "80 80 80 80 f8 ff ff ff ff 01"}, {n(1 << 63), "80 80 80 80 80 80 80 80 80 01"}}
	case api.TyUint32:
		return []sample{{n(300), "ac 02"}, {n(0), "00"}, {n(1), "01"}, {n(1 << 31), "80 80 80 80 08"}, {n(1<<32 - 1), "ff ff ff ff 0f"}}
	case api.TyUint64:
		return []sample{{n(300), "ac 02"}, {n(0), "00"}, {n(1), "01"}, {n(1<<32 - 1), "ff ff ff ff 0f"}, {n(1 << 63), "80 80 80 80 80 80 80 80 80 01"}, {n(math.MaxUint64), ones}}
	case api.TySint32:
		return []sample{{n(minus), "01"}, {n(0), "00"}, {n(1), "02"}, {n(minus - 1), "03"}, {n(most), "fe ff ff ff 0f"}, {n(least), "ff ff ff ff 0f"}}
	case api.TySint64:
		return []sample{{n(minus), "01"}, {n(0), "00"}, {n(1), "02"}, {n(minus - 1), "03"}, {n(1 << 32), "80 80 80 80 20"}, {n(1<<63 - 1), "fe ff ff ff ff ff ff ff ff 01"}, {n(1 << 63), ones}}
	case api.TyBool:
		return []sample{{n(1), "01"}, {n(0), "00"}}
	case api.TyFixed32:
		return []sample{{n(258), "02 01 00 00"}, {n(0), "00 00 00 00"}, {n(1 << 31), "00 00 00 80"}, {n(1<<32 - 1), "ff ff ff ff"}}
	case api.TySfixed32:
		return []sample{{n(258), "02 01 00 00"}, {n(0), "00 00 00 00"}, {n(minus), "ff ff ff ff"}, {n(most), "ff ff ff 7f"}, {n(least), "00 00 00 80"}}
	case api.TyFixed64:
		return []sample{{n(258), "02 01 00 00 00 00 00 00"}, {n(0), "00 00 00 00 00 00 00 00"}, {n(1 << 63), "00 00 00 00 00 00 00 80"}, {n(math.MaxUint64), "ff ff ff ff ff ff ff ff"}}
	case api.TySfixed64:
		return []sample{{n(258), "02 01 00 00 00 00 00 00"}, {n(0), "00 00 00 00 00 00 00 00"}, {n(minus), "ff ff ff ff ff ff ff ff"}, {n(1<<63 - 1), "ff ff ff ff ff ff ff 7f"}, {n(1 << 63), "00 00 00 00 00 00 00 80"}}
	case api.TyString:
		return []sample{{s("ab"), "02 61 62"}, {s(""), "00"}, {s("\x00"), "01 00"}, {s("é"), "02 c3 a9"}}
	case api.TyBytes:
		return []sample{{s("ab"), "02 61 62"}, {s(""), "00"}, {s("\xff\x80"), "02 ff 80"}}
	}
	return []sample{{m(of(slot(1, n(5)))), "02 08 05"}, {m(api.Tree{}), "00"}, {m(of(slot(2, m(api.Tree{})))), "02 12 00"}, {m(rest(api.Raw{Num: 3, N: 1})), "02 18 01"}}
}

// ahead is the tag of field 1 ahead of one value of the type.
func ahead(ty int) string {
	switch ty {
	case api.TyFixed32, api.TySfixed32:
		return "0d"
	case api.TyFixed64, api.TySfixed64:
		return "09"
	case api.TyString, api.TyBytes, api.TyMessage:
		return "0a"
	}
	return "08"
}

// P21.2: values of each type, as a field of one value, in a oneof and in none.
func TestOneValue(t *testing.T) {
	for ty := api.TyInt32; ty <= api.TyMessage; ty++ {
		for _, x := range samples(ty) {
			want := bits(ahead(ty) + x.wire)
			puts(t, one(in(typed(1, ty))), "M", of(slot(1, x.v)), want)
			if ty == api.TyMessage || x.v.N != 0 || x.v.S != "" {
				puts(t, one(typed(1, ty)), "M", of(slot(1, x.v)), want)
			}
		}
	}
}

// P21.1, P21.2: values of each type, as a repeated field: numbers as one text, all else one by one.
func TestManyValues(t *testing.T) {
	for ty := api.TyInt32; ty <= api.TyMessage; ty++ {
		var all []api.Val
		var nums []uint64
		var inner, each string
		for _, x := range samples(ty) {
			all, nums = append(all, x.v), append(nums, x.v.N)
			inner, each = inner+bits(x.wire), each+bits(ahead(ty)+x.wire)
			f := many(typed(1, ty))
			if ahead(ty) == "0a" {
				puts(t, one(f), "M", of(slot(1, x.v)), bits("0a"+x.wire))
				puts(t, one(f), "M", of(slot(1, all...)), each)
				packs(t, f, nums, "")
				continue
			}
			alone := bits(x.wire)
			packs(t, f, []uint64{x.v.N}, alone)
			packs(t, f, nums, inner)
			puts(t, one(f), "M", of(slot(1, x.v)), bits("0a")+string(rune(len(alone)))+alone)
			puts(t, one(f), "M", of(slot(1, all...)), bits("0a")+string(rune(len(inner)))+inner)
			// Loose they are written one by one.
			puts(t, one(loose(typed(1, ty))), "M", of(slot(1, x.v)), bits(ahead(ty)+x.wire))
			puts(t, one(loose(typed(1, ty))), "M", of(slot(1, all...)), each)
		}
	}
}

// P21.2: one text is one text, and one field, however many values it has, and the same value may be in it more than once.
func TestValuesMoreThanOnce(t *testing.T) {
	puts(t, one(many(typed(3, api.TyInt32))), "M", of(slot(3, n(0), n(0), n(300), n(0))), bits("1a 05 00 00 ac 02 00"))
	puts(t, one(loose(typed(3, api.TyInt32))), "M", of(slot(3, n(0), n(0), n(300), n(0))), bits("18 00 18 00 18 ac 02 18 00"))
	puts(t, one(many(typed(3, api.TyFixed64))), "M", of(slot(3, n(1), n(1))), bits("1a 10 01 00 00 00 00 00 00 00 01 00 00 00 00 00 00 00"))
	puts(t, one(loose(typed(3, api.TyFixed32))), "M", of(slot(3, n(1), n(1))), bits("1d 01 00 00 00 1d 01 00 00 00"))
	puts(t, one(many(typed(3, api.TyString))), "M", of(slot(3, s(""), s("a"), s(""), s("a"))), bits("1a 00 1a 01 61 1a 00 1a 01 61"))
	puts(t, one(many(typed(3, api.TyMessage))), "M", of(slot(3, m(api.Tree{}), m(of(slot(1, n(9)))), m(api.Tree{}))), bits("1a 00 1a 02 08 09 1a 00"))
}

// P21.1: no values are no bytes, of whatever type; and of what is no number type there are never any.
func TestPackOfNothing(t *testing.T) {
	for _, ty := range []int{-1, 0, 1, 2, 3, 4, 5, 6, 7, 8, 9, 10, 11, 12, 13, 14, 15, 16, math.MinInt, math.MaxInt} {
		for _, f := range []api.Field{typed(1, ty), in(typed(1, ty)), many(typed(1, ty)), loose(typed(1, ty))} {
			packs(t, f, nil, "")
			packs(t, f, []uint64{}, "")
			packs(t, f, []uint64{1, 2}[:0], "")
		}
	}
	for _, ty := range []int{api.TyString, api.TyBytes, api.TyMessage, 0, -1, 16, 17, 1 << 8, 1<<8 + 1, 1<<32 + 1, math.MinInt, math.MinInt + 1, math.MaxInt} {
		for _, f := range []api.Field{typed(1, ty), in(typed(1, ty)), many(typed(1, ty)), loose(typed(1, ty))} {
			packs(t, f, []uint64{0}, "")
			packs(t, f, []uint64{1, 2, math.MaxUint64}, "")
		}
	}
}

// P21.1: nothing but the type says what the bytes are: what is wrong with the field does not matter, nor whether it is Packed.
func TestPackOfAnyField(t *testing.T) {
	for _, f := range []api.Field{{}, {Name: "1", Num: -1}, {Num: 19000, Rep: true, One: "o"}, {Num: math.MaxInt, Loose: true, Ref: "\xff"}, {Num: 1, Rep: true, Loose: true}} {
		for ty := api.TyInt32; ty <= api.TyEnum; ty++ {
			if ahead(ty) == "0a" {
				continue
			}
			f.Type = ty
			for _, x := range samples(ty) {
				packs(t, f, []uint64{x.v.N, x.v.N}, bits(x.wire+x.wire))
			}
		}
	}
}

// P21.1: numbers that may not be of the type are written as num.To has them: some are cut, some are not.
func TestPackOfNumbersThatMayNotBe(t *testing.T) {
	for _, x := range []struct {
		ty   int
		n    uint64
		want string
	}{
		{api.TyInt32, 1 << 32, "80 80 80 80 10"}, {api.TyInt32, 1 << 31, "80 80 80 80 08"}, {api.TyEnum, 1<<32 - 1, "ff ff ff ff 0f"}, {api.TyEnum, 1 << 63, "80 80 80 80 80 80 80 80 80 01"},
		{api.TyBool, 2, "02"}, {api.TyBool, 300, "ac 02"}, {api.TyBool, minus, ones},
		{api.TyUint32, 1 << 32, "00"}, {api.TyUint32, 1<<32 + 300, "ac 02"}, {api.TyUint32, minus, "ff ff ff ff 0f"},
		{api.TySint32, 1 << 31, "80 80 80 80 10"}, {api.TySint32, 1 << 63, ones}, {api.TySint32, 1<<63 - 1, "fe ff ff ff ff ff ff ff ff 01"},
		{api.TyFixed32, 1<<32 + 258, "02 01 00 00"}, {api.TyFixed32, minus, "ff ff ff ff"}, {api.TySfixed32, 1 << 63, "00 00 00 00"}, {api.TySfixed32, 1<<31 + 1, "01 00 00 80"},
	} {
		packs(t, many(typed(1, x.ty)), []uint64{x.n}, bits(x.want))
		packs(t, many(typed(1, x.ty)), []uint64{1, x.n, 1}, encode.Pack(typed(1, x.ty), []uint64{1})+bits(x.want)+encode.Pack(typed(1, x.ty), []uint64{1}))
	}
}

// P21.2: slots in their order, of fields of all kinds and numbers, messages in messages, then Rest in its order, in each message.
func TestFull(t *testing.T) {
	box := "0a 05 0a 01 07 58 01" + "29 ff ff ff ff ff ff ff ff" + "32 08 01 00 00 00 02 00 00 00" + "12 08 69 6e 20 61 20 62 6f 78" + "4d ff ff ff ff"
	item := "0a 0c 00 03" + ones + "12 02 08 05" + "1a 29" + box + "58 01" + "62 02 c3 a9" + "6a 01 ff" + "20 01 20 01" + "81 e2 09 ff ff ff ff ff ff ff ff"
	want := "08 05" + "22 55" + item + "22 00" + "22 04 1a 02 18 00" + "30 00" + "38 4d" + "42 03 62 01 78" + "4a 00" + "52 00 52 01 61 52 00" +
		"f8 ff ff ff 0f 00" + "f8 ff ff ff 0f ff ff ff ff 07" + "18 08" + "c2 a3 09 06 62 61 72 72 65 64" + "5a 00" + "1d 00 00 00 00"
	puts(t, good(), "Order", full(), bits(want))
	// Each tree within, alone, has the bytes that it has within.
	items := full().Slots[1].Vals
	puts(t, good(), "Item", items[0].M[0], bits(item))
	puts(t, good(), "Item", items[1].M[0], "")
	puts(t, good(), "Item", items[2].M[0], bits("1a 02 18 00"))
	puts(t, good(), "Box", items[0].M[0].Slots[2].Vals[0].M[0], bits(box))
	// Slots alone, and Rest alone, are what they are together.
	slots, left := of(full().Slots...), rest(full().Rest...)
	a, e1 := encode.Put(good(), "Order", slots)
	b, e2 := encode.Put(good(), "Order", left)
	if e1 != api.OK || e2 != api.OK || string(a)+string(b) != bits(want) {
		t.Errorf("%v, %v: % x, % x", e1, e2, a, b)
	}
}

// P21.2: each field of a oneof, also with the value that would be hidden in none.
func TestOneofs(t *testing.T) {
	for _, x := range []struct {
		t    api.Tree
		want string
	}{
		{of(slot(2, s(""))), "12 00"}, {of(slot(2, s("a"))), "12 01 61"}, {of(slot(6, n(0))), "30 00"}, {of(slot(6, n(minus))), "30 01"}, {of(slot(20000, s(""))), "82 e2 09 00"}, {of(slot(20000, s("\xff"))), "82 e2 09 01 ff"},
		{of(slot(8, m(api.Tree{}))), "42 00"}, {of(slot(2, s("")), slot(8, m(api.Tree{}))), "12 00 42 00"}, {of(slot(8, m(of(slot(3, m(of(slot(1, m(api.Tree{}))))))))), "42 04 1a 02 0a 00"}, {of(slot(8, m(of(slot(3, m(of(slot(3, n(0))))))))), "42 04 1a 02 18 00"},
	} {
		puts(t, good(), "Order", x.t, bits(x.want))
	}
}

// P21.2: fields in Rest, of every wire type, are written as they are, behind all slots, whatever their numbers.
func TestRest(t *testing.T) {
	for _, x := range []struct {
		x    api.Raw
		want string
	}{
		{api.Raw{Num: 3}, "18 00"}, {api.Raw{Num: 3, N: 300}, "18 ac 02"}, {api.Raw{Num: 3, N: math.MaxUint64}, "18" + ones},
		{api.Raw{Num: 3, Wire: api.Wire64}, "19 00 00 00 00 00 00 00 00"}, {api.Raw{Num: 3, Wire: api.Wire64, N: 258}, "19 02 01 00 00 00 00 00 00"}, {api.Raw{Num: 3, Wire: api.Wire64, N: math.MaxUint64}, "19 ff ff ff ff ff ff ff ff"},
		{api.Raw{Num: 3, Wire: api.WireBytes}, "1a 00"}, {api.Raw{Num: 3, Wire: api.WireBytes, S: "\xff\x00"}, "1a 02 ff 00"},
		{api.Raw{Num: 3, Wire: api.Wire32}, "1d 00 00 00 00"}, {api.Raw{Num: 3, Wire: api.Wire32, N: 258}, "1d 02 01 00 00"}, {api.Raw{Num: 3, Wire: api.Wire32, N: math.MaxUint32}, "1d ff ff ff ff"},
		{api.Raw{Num: 15, N: 1}, "78 01"}, {api.Raw{Num: 16, N: 1}, "80 01 01"}, {api.Raw{Num: 19000, N: 1}, "c0 a3 09 01"}, {api.Raw{Num: api.MaxNum, Wire: api.Wire32, N: 1}, "fd ff ff ff 0f 01 00 00 00"},
	} {
		schema := one(many(typed(1, api.TyInt32)), typed(5, api.TyMessage), typed(20, api.TyString))
		puts(t, schema, "M", rest(x.x), bits(x.want))
		puts(t, schema, "M", rest(x.x, x.x), bits(x.want+x.want))
		other := api.Raw{Num: 2, Wire: api.WireBytes, S: "a"}
		puts(t, schema, "M", rest(x.x, other, x.x), bits(x.want+"12 01 61"+x.want))
		puts(t, schema, "M", rest(other, x.x, other), bits("12 01 61"+x.want+"12 01 61"))
		all := api.Tree{Slots: []api.Slot{slot(1, n(1), n(2)), slot(5, m(rest(x.x, x.x))), slot(20, s("b"))}, Rest: []api.Raw{x.x, other}}
		within := bits(x.want + x.want)
		puts(t, schema, "M", all, bits("0a 02 01 02 2a")+string(rune(len(within)))+within+bits("a2 01 01 62"+x.want+"12 01 61"))
	}
}

// P21.2: texts, messages, and numbers written as one text, whose length takes one byte, two, and three.
func TestLengths(t *testing.T) {
	for _, x := range []struct {
		size int
		long string
	}{{0, "00"}, {1, "01"}, {126, "7e"}, {127, "7f"}, {128, "80 01"}, {129, "81 01"}, {300, "ac 02"}, {16383, "ff 7f"}, {16384, "80 80 01"}, {65000, "e8 fb 03"}} {
		text := strings.Repeat("a", x.size)
		for _, ty := range []int{api.TyString, api.TyBytes} {
			puts(t, one(in(typed(1, ty))), "M", of(slot(1, s(text))), bits("0a"+x.long)+text)
		}
		puts(t, one(), "M", rest(api.Raw{Num: 1, Wire: api.WireBytes, S: text}), bits("0a"+x.long)+text)
		if x.size == 0 {
			continue
		}
		flags := slices.Repeat([]api.Val{n(1)}, x.size)
		puts(t, one(many(typed(1, api.TyBool))), "M", of(slot(1, flags...)), bits("0a"+x.long)+strings.Repeat("\x01", x.size))
		if x.size < 2 {
			continue
		}
		// A message of just so many bytes: fields of two bytes, and one of three.
		inner := slices.Repeat([]api.Raw{{Num: 3, N: 1}}, x.size/2)
		wire := strings.Repeat("\x18\x01", x.size/2)
		if x.size%2 == 1 {
			inner[0].N = 128
			wire = "\x18\x80\x01" + wire[2:]
		}
		puts(t, one(typed(1, api.TyMessage)), "M", of(slot(1, m(rest(inner...)))), bits("0a"+x.long)+wire)
	}
	// A message in one in one, each longer than the one within it, the innermost one alone of fewer than 128 bytes.
	text := strings.Repeat("a", 124)
	puts(t, good(), "Ring", of(slot(1, m(of(slot(1, m(of(slot(2, s(text))))))))), bits("0a 80 01 0a 7e 12 7c")+text)
	puts(t, good(), "Ring", of(slot(1, m(of(slot(1, m(of(slot(2, s(text+"a"))))), slot(2, s("b")))))), bits("0a 84 01 0a 7f 12 7d")+text+"a"+bits("12 01 62"))
}

// P21.2: the empty tree has no bytes, and is a value of every message.
func TestTheEmptyTree(t *testing.T) {
	for _, x := range []api.Tree{{}, {Slots: []api.Slot{}}, {Rest: []api.Raw{}}, {Slots: []api.Slot{}, Rest: []api.Raw{}}, {Slots: make([]api.Slot, 0, 3)}} {
		for _, mess := range good().Messages {
			puts(t, good(), mess.Name, x, "")
		}
	}
	puts(t, good(), "Order", of(slot(9, m(api.Tree{}))), bits("4a 00"))
	puts(t, good(), "Ring", of(slot(1, m(of(slot(1, m(of(slot(1, m(api.Tree{}))))))))), bits("0a 04 0a 02 0a 00"))
}

// P21.2: names that no message has.
func TestNoMessage(t *testing.T) {
	for _, name := range []string{"", "Color", "red", "id", "pick", "order", "Orde", "Orders", " Order", "Order ", "Order\x00", "\xff"} {
		for _, x := range []api.Tree{{}, full(), of(slot(1, n(0))), of(slot(0)), rest(api.Raw{}), nest(1, 17), sized(api.MaxBytes + 1)} {
			fails(t, "no message", good(), name, x, api.ErrNone)
		}
	}
	fails(t, "no schema", api.Schema{}, "", api.Tree{}, api.ErrNone)
	fails(t, "no schema", api.Schema{}, "M", full(), api.ErrNone)
}

// P21.2: trees that are none of the message's values, also where the fault is in a tree within.
func TestNoValue(t *testing.T) {
	for _, x := range []api.Tree{
		of(slot(1, n(0))), of(slot(1)), of(slot(1, n(1), n(2))), of(slot(3, n(1))), of(slot(0, n(1))), of(slot(-1, n(1))), of(slot(1, s("a"))), of(slot(1, m(api.Tree{}))), of(slot(1, api.Val{N: 1, S: "a"})),
		of(slot(7, n(1)), slot(1, n(1))), of(slot(1, n(1)), slot(1, n(1))), of(slot(2, s("\xff"))), of(slot(2, s("a")), slot(6, n(1))), of(slot(6, n(1<<31))), of(slot(7, n(1<<31))),
		of(slot(4, m())), of(slot(4, m(api.Tree{}, api.Tree{}))), of(slot(4, n(0))), of(slot(9, m(of(slot(1, n(1)))))), of(slot(10, s("a"), s("\xff"))), of(slot(api.MaxNum, n(1), n(1<<31))),
		rest(api.Raw{}), rest(api.Raw{Num: 1}), rest(api.Raw{Num: 3, Wire: 3}), rest(api.Raw{Num: 3, S: "a"}), rest(api.Raw{Num: 3, Wire: api.Wire32, N: 1 << 32}), rest(api.Raw{Num: 3}, api.Raw{Num: api.MaxNum + 1}),
	} {
		fails(t, "no value", good(), "Order", x, api.ErrArg)
		x.Slots = append(x.Slots[:len(x.Slots):len(x.Slots)], full().Slots[1])
		fails(t, "no value", good(), "Order", x, api.ErrArg)
		around := api.Schema{Messages: append(good().Messages, api.Message{Name: "Root", Fields: []api.Field{{Name: "a", Num: 1, Type: api.TyMessage, Ref: "Order", Rep: true}, {Name: "b", Num: 2, Type: api.TyMessage, Ref: "Root"}}})}
		fails(t, "no value within", around, "Root", of(slot(2, m(of(slot(1, m(api.Tree{}), m(full()), m(x)))))), api.ErrArg)
	}
	// A value of one message is none of another one.
	fails(t, "no value", good(), "Item", full(), api.ErrArg)
	fails(t, "no value", good(), "Note", full(), api.ErrArg)
	fails(t, "no value", one(typed(1, api.TyMessage)), "M", of(slot(2, m(api.Tree{}))), api.ErrArg)
}

// nest is so many trees of Ring in one another, each the value of the field of that number of the one around it.
func nest(num, deep int) api.Tree {
	return around(num, deep-1, api.Tree{})
}

// around is a tree in so many others.
func around(num, times int, t api.Tree) api.Tree {
	for range times {
		t = of(slot(num, m(t)))
	}
	return t
}

// P21.2: trees that are as deep as may be, and those that are deeper.
func TestDeep(t *testing.T) {
	for deep := range 40 {
		want := ""
		for i := range deep {
			want = "\x0a" + string(rune(2*i)) + want
		}
		x, inner := nest(1, deep+1), of(slot(2, s("a")))
		list := of(slot(3, m(api.Tree{}), m(x), m(api.Tree{})))
		if deep < api.MaxDepth {
			puts(t, good(), "Ring", x, want)
		} else {
			fails(t, "too deep", good(), "Ring", x, api.ErrLong)
			fails(t, "too deep", good(), "Ring", around(1, deep, inner), api.ErrLong)
			fails(t, "too deep", good(), "Ring", around(1, deep, rest(api.Raw{Num: 9})), api.ErrLong)
		}
		// It is the deepest of all that counts, wherever it stands.
		if deep+1 < api.MaxDepth {
			puts(t, good(), "Ring", list, bits("1a 00 1a")+string(rune(2*deep))+want+bits("1a 00"))
		} else {
			fails(t, "too deep", good(), "Ring", list, api.ErrLong)
		}
	}
	// What looks like messages in Rest, or in a text, is none.
	text := strings.Repeat("\x0a\x00", 20)
	puts(t, good(), "Ring", around(1, api.MaxDepth-1, rest(api.Raw{Num: 7, Wire: api.WireBytes, S: text})), wrapped(api.MaxDepth-1, bits("3a 28")+text))
	puts(t, good(), "Ring", around(1, api.MaxDepth-1, of(slot(2, s(text)))), wrapped(api.MaxDepth-1, bits("12 28")+text))
}

// wrapped is the bytes as a field 1 of one message in another, so many times.
func wrapped(times int, b string) string {
	for range times {
		b = text(1, b)
	}
	return b
}

// sized is a value of Ring whose bytes are so many, in one field.
func sized(size int) api.Tree {
	// A tag, and three bytes of how many there are: two up to 16383, but so small ones are not asked for.
	return of(slot(2, s(strings.Repeat("a", size-4))))
}

// P21.2: values with just as many bytes as may be, in one field or in many, of slots and of Rest, in messages and in none, and those with one more.
func TestMaxBytes(t *testing.T) {
	const top = api.MaxBytes
	text := strings.Repeat("a", top)
	flags := slices.Repeat([]api.Val{n(1)}, top)
	for name, value := range map[string]func(size int) api.Tree{
		"a text":           sized,
		"a field of Rest":  func(size int) api.Tree { return rest(api.Raw{Num: 9, Wire: api.WireBytes, S: text[:size-4]}) },
		"numbers":          func(size int) api.Tree { return of(slot(4, flags[:size-4]...)) },
		"numbers, and one": func(size int) api.Tree { return of(slot(4, flags[:size-6]...), slot(5, n(0))) },
		"loose numbers": func(size int) api.Tree {
			return api.Tree{Slots: []api.Slot{slot(2, s(text[:size%2+1])), slot(5, flags[:size/2-3]...)}, Rest: []api.Raw{{Num: 7, N: 128}}}
		},
		"fields of Rest": func(size int) api.Tree {
			l := slices.Repeat([]api.Raw{{Num: 7}}, size/2)
			l[len(l)-1].N = 127 + uint64(size%2)
			return rest(l...)
		},
		"empty messages": func(size int) api.Tree {
			return api.Tree{Slots: []api.Slot{slot(3, slices.Repeat([]api.Val{m(api.Tree{})}, size/2-2)...)}, Rest: []api.Raw{{Num: 7, Wire: api.WireBytes, S: text[:2+size%2]}}}
		},
		"empty texts": func(size int) api.Tree {
			return of(slot(6, append(slices.Repeat([]api.Val{s("")}, size/2-2), s(text[:2+size%2]))...))
		},
		"messages in others": func(size int) api.Tree { return around(1, 15, sized(size-15*4)) },
		"messages beside others": func(size int) api.Tree {
			return of(slot(3, m(sized(30000-4)), m(around(3, 14, sized(size-30000-15*4)))))
		},
		"both in messages and behind them": func(size int) api.Tree {
			return api.Tree{Slots: around(1, 15, sized(40000-15*4)).Slots, Rest: []api.Raw{{Num: 7, Wire: api.WireBytes, S: text[:size-40000-4]}}}
		},
	} {
		for _, size := range []int{top - 2, top - 1, top, top + 1, top + 2} {
			x := value(size)
			if size > top {
				fails(t, name, good(), "Ring", x, api.ErrLong)
				continue
			}
			b, e := encode.Put(good(), "Ring", x)
			if want := fieldsBy(good(), "Ring", x); e != api.OK || len(b) != size || string(b) != want {
				t.Errorf("%s: %d bytes, %v; wanted %d", name, len(b), e, size)
			}
		}
	}
}

// P21.2: what is ahead of a message, too, is of a value's bytes: it alone may be what is too long.
func TestMaxBytesByWhatIsAhead(t *testing.T) {
	for wraps := range 16 {
		x := around(1, wraps, sized(api.MaxBytes-4*wraps))
		b, e := encode.Put(good(), "Ring", x)
		if e != api.OK || len(b) != api.MaxBytes {
			t.Errorf("%d bytes, %v", len(b), e)
		}
		fails(t, "more ahead", good(), "Ring", around(1, wraps+1, sized(api.MaxBytes-4*wraps)), api.ErrLong)
		fails(t, "one more", good(), "Ring", around(1, wraps, sized(api.MaxBytes-4*wraps+1)), api.ErrLong)
	}
}

// P21.2: which error comes first where several fit.
func TestTheFirstError(t *testing.T) {
	wrong, big := rest(api.Raw{Num: 1}), sized(api.MaxBytes+1)
	fails(t, "wrong and deep", good(), "Ring", around(1, 20, wrong), api.ErrArg)
	fails(t, "wrong ahead of deep", good(), "Ring", of(slot(1, m(nest(1, 20))), slot(2, s(""))), api.ErrArg)
	fails(t, "deep ahead of wrong", good(), "Ring", of(slot(1, m(nest(1, 20))), slot(3, m(wrong))), api.ErrArg)
	fails(t, "wrong and long", good(), "Ring", api.Tree{Slots: big.Slots, Rest: wrong.Rest}, api.ErrArg)
	fails(t, "wrong in Rest and long", good(), "Ring", api.Tree{Slots: big.Slots, Rest: []api.Raw{{Num: 7}, {}}}, api.ErrArg)
	fails(t, "wrong, deep and long", good(), "Ring", of(slot(1, m(nest(1, 20))), slot(2, big.Slots[0].Vals[0]), slot(3, m(wrong))), api.ErrArg)
	fails(t, "deep and long", good(), "Ring", around(1, 16, big), api.ErrLong)
	for _, x := range []api.Tree{wrong, big, nest(1, 20), around(1, 20, wrong), api.Tree{Slots: big.Slots, Rest: wrong.Rest}, around(1, 16, big)} {
		fails(t, "no message, whatever else", good(), "Rung", x, api.ErrNone)
	}
}

// number is n by seven bits, the lowest ones first, by the words of P1.1.
func number(n uint64) string {
	if n < 128 {
		return string([]byte{byte(n)})
	}
	return string([]byte{byte(n%128 + 128)}) + number(n/128)
}

// low is n's lowest bytes.
func low(n uint64, size int) string {
	b := make([]byte, size)
	for i := range b {
		b[i] = byte(n)
		n /= 256
	}
	return string(b)
}

// text is a field of that number and bytes.
func text(num int, s string) string {
	return number(uint64(num)*8+2) + number(uint64(len(s))) + s
}

// bareBy is the number, of that type, on the wire, and the wire type, by the words of P12.1 and P21.1.
func bareBy(ty int, n uint64) (string, int) {
	switch ty {
	case 1, 2, 4, 7, 14:
		return number(n), 0
	case 3:
		return number(n % (1 << 32)), 0
	case 5, 6:
		if int64(n) < 0 {
			return number(2*-n - 1), 0
		}
		return number(2 * n), 0
	case 8, 10:
		return low(n, 4), 5
	case 9, 11:
		return low(n, 8), 1
	}
	panic("no number type")
}

// fieldBy is the first field of that number.
func fieldBy(mess *api.Message, num int) *api.Field {
	for i := range mess.Fields {
		if mess.Fields[i].Num == num {
			return &mess.Fields[i]
		}
	}
	return nil
}

// messageBy is the first message of that name.
func messageBy(s api.Schema, name string) *api.Message {
	for i := range s.Messages {
		if s.Messages[i].Name == name {
			return &s.Messages[i]
		}
	}
	return nil
}

// slotBy is the bytes of a slot, by the words of P21.2.
func slotBy(s api.Schema, f api.Field, x api.Slot) string {
	var b strings.Builder
	for _, v := range x.Vals {
		switch f.Type {
		case 12, 13:
			b.WriteString(text(f.Num, v.S))
		case 15:
			b.WriteString(text(f.Num, fieldsBy(s, f.Ref, v.M[0])))
		default:
			u, wire := bareBy(f.Type, v.N)
			if !f.Rep || f.Loose {
				b.WriteString(number(uint64(f.Num*8 + wire)))
			}
			b.WriteString(u)
		}
	}
	if f.Rep && !f.Loose && (f.Type < 12 || f.Type == 14) {
		return text(f.Num, b.String())
	}
	return b.String()
}

// fieldsBy is the bytes of a value, by the words of P21.2, however many they are.
func fieldsBy(s api.Schema, name string, t api.Tree) string {
	var b strings.Builder
	for _, x := range t.Slots {
		b.WriteString(slotBy(s, *fieldBy(messageBy(s, name), x.Num), x))
	}
	for _, x := range t.Rest {
		switch x.Wire {
		case 0:
			b.WriteString(number(uint64(x.Num)*8) + number(x.N))
		case 1:
			b.WriteString(number(uint64(x.Num)*8+1) + low(x.N, 8))
		case 2:
			b.WriteString(text(x.Num, x.S))
		case 5:
			b.WriteString(number(uint64(x.Num)*8+5) + low(x.N, 4))
		}
	}
	return b.String()
}

// readBy is the value that those bytes were written of: so no other value has them.
func readBy(t *testing.T, s api.Schema, name string, b string) api.Tree {
	t.Helper()
	l, e := raw.Get([]byte(b))
	if e != api.OK {
		t.Fatalf("no fields: % x", b)
	}
	var x api.Tree
	for _, y := range l {
		f := fieldBy(messageBy(s, name), y.Num)
		if f == nil {
			x.Rest = append(x.Rest, y)
			continue
		}
		if at := len(x.Slots) - 1; at < 0 || x.Slots[at].Num != y.Num {
			x.Slots = append(x.Slots, slot(y.Num))
		}
		last := &x.Slots[len(x.Slots)-1]
		last.Vals = append(last.Vals, valsBy(t, s, *f, y)...)
	}
	return x
}

// valsBy is the values that a field was written of.
func valsBy(t *testing.T, s api.Schema, f api.Field, y api.Raw) []api.Val {
	t.Helper()
	switch {
	case f.Type == api.TyMessage:
		return []api.Val{m(readBy(t, s, f.Ref, y.S))}
	case f.Type == api.TyString || f.Type == api.TyBytes || y.Wire != api.WireBytes:
		return []api.Val{{N: num.From(f.Type, y.N), S: y.S}}
	}
	var l []api.Val
	nums, _ := varint.All([]byte(y.S))
	switch ahead(f.Type) {
	case "0d":
		nums = nil
		for b := []byte(y.S); len(b) > 0; b = b[4:] {
			u, _ := fix.Get4(b)
			nums = append(nums, uint64(u))
		}
	case "09":
		nums = nil
		for b := []byte(y.S); len(b) > 0; b = b[8:] {
			u, _ := fix.Get8(b)
			nums = append(nums, u)
		}
	}
	for _, u := range nums {
		l = append(l, n(num.From(f.Type, u)))
	}
	return l
}

// unlike gathers values of a message, and asks that no two that are unlike have the same bytes.
type unlike struct {
	s    api.Schema
	name string
	seen map[string]api.Tree
}

// add asks of one more.
func (u *unlike) add(t *testing.T, x api.Tree) {
	t.Helper()
	b, e := encode.Put(u.s, u.name, x)
	if e != api.OK {
		t.Fatal(short(fmt.Sprintf("Put of %+v: %v", x, e)))
	}
	if was, there := u.seen[string(b)]; there && !tree.Same(was, x) {
		t.Fatal(short(fmt.Sprintf("both have the bytes % x: %+v and %+v", b, was, x)))
	}
	u.seen[string(b)] = tree.Copy(x)
}

// spot is a tree within another one, and the message that it is of.
type spot struct {
	m api.Message
	t *api.Tree
}

// reach is each tree within t, t among them.
func reach(s api.Schema, name string, t *api.Tree) []spot {
	mess := messageBy(s, name)
	l := []spot{{*mess, t}}
	for i := range t.Slots {
		f := fieldBy(mess, t.Slots[i].Num)
		for k := range t.Slots[i].Vals {
			for j := range t.Slots[i].Vals[k].M {
				l = append(l, reach(s, f.Ref, &t.Slots[i].Vals[k].M[j])...)
			}
		}
	}
	return l
}

// laid is the slots with one more, where its number is to stand, instead of one of that number.
func laid(l []api.Slot, x api.Slot) []api.Slot {
	l = slices.DeleteFunc(slices.Clone(l), func(y api.Slot) bool { return y.Num == x.Num })
	at := slices.IndexFunc(l, func(y api.Slot) bool { return y.Num > x.Num })
	if at < 0 {
		at = len(l)
	}
	return slices.Insert(l, at, x)
}

// oneVal is values of the type.
func oneVal(ty int) (l []api.Val) {
	for _, x := range samples(ty) {
		if ty != api.TyMessage {
			l = append(l, x.v)
		}
	}
	if ty == api.TyMessage {
		l = append(l, m(api.Tree{}), m(rest(api.Raw{Num: 18, N: 1})))
	}
	return l
}

// restChanges is ways to change the tree's Rest in one thing.
func restChanges(x spot) (l []func()) {
	t := x.t
	for _, y := range []api.Raw{{Num: 18}, {Num: 18, N: 1}, {Num: 18, Wire: api.WireBytes}, {Num: 18, Wire: api.Wire32}, {Num: 18, Wire: api.Wire64}, {Num: 4}, {Num: 2, Wire: api.WireBytes, S: "a"}} {
		l = append(l, func() { t.Rest = append(slices.Clone(t.Rest), y) }, func() { t.Rest = append([]api.Raw{y}, t.Rest...) })
	}
	for i := range t.Rest {
		y := &t.Rest[i]
		l = append(l, func() { t.Rest = slices.Delete(slices.Clone(t.Rest), i, i+1) }, func() { t.Rest = slices.Insert(slices.Clone(t.Rest), i, *y) })
		l = append(l, func() { y.Num++ }, func() { y.Num-- }, func() { y.N++ }, func() { y.N-- }, func() { y.S += "a" }, func() { y.S = "" }, func() { y.S = "\x00" + y.S })
		for _, wire := range []int{0, 1, 2, 5} {
			l = append(l, func() { y.Wire = wire })
		}
		if i > 0 {
			l = append(l, func() { t.Rest[i-1], t.Rest[i] = t.Rest[i], t.Rest[i-1] })
		}
	}
	return l
}

// slotChanges is ways to change the tree's slots in one thing.
func slotChanges(x spot) (l []func()) {
	t := x.t
	for _, f := range x.m.Fields {
		for _, v := range oneVal(f.Type) {
			l = append(l, func() { t.Slots = laid(t.Slots, slot(f.Num, v)) })
			// Instead of the field that is there of its oneof.
			l = append(l, func() {
				t.Slots = slices.DeleteFunc(slices.Clone(t.Slots), func(y api.Slot) bool { return fieldBy(&x.m, y.Num).One == f.One })
				t.Slots = laid(t.Slots, slot(f.Num, v))
			})
		}
	}
	for i := range t.Slots {
		y := &t.Slots[i]
		l = append(l, func() { t.Slots = slices.Delete(slices.Clone(t.Slots), i, i+1) })
		for k := range y.Vals {
			l = append(l, func() { y.Vals = slices.Delete(slices.Clone(y.Vals), k, k+1) }, func() { y.Vals = slices.Insert(slices.Clone(y.Vals), k, y.Vals[k]) })
			l = append(l, func() { y.Vals[k].N++ }, func() { y.Vals[k].N-- }, func() { y.Vals[k].S += "a" }, func() { y.Vals[k].S = "" })
			for _, v := range oneVal(fieldBy(&x.m, y.Num).Type) {
				l = append(l, func() { y.Vals[k] = v }, func() { y.Vals = slices.Insert(slices.Clone(y.Vals), k, v) })
			}
			if k > 0 {
				l = append(l, func() { y.Vals[k-1], y.Vals[k] = y.Vals[k], y.Vals[k-1] })
			}
		}
	}
	return l
}

// P21.3: a value with one thing alone changed, wherever it is, has other bytes: than it had, and than each other one has.
func TestOneChange(t *testing.T) {
	changes := func(x *api.Tree) (l []func()) {
		for _, y := range reach(good(), "Order", x) {
			l = append(append(l, slotChanges(y)...), restChanges(y)...)
		}
		return l
	}
	u := unlike{good(), "Order", map[string]api.Tree{}}
	x := full()
	u.add(t, x)
	for i := range changes(&x) {
		y := full()
		changes(&y)[i]()
		if valid.Tree(good(), "Order", y) {
			u.add(t, y)
		} else {
			fails(t, "no value any more", good(), "Order", y, api.ErrArg)
		}
	}
	if len(u.seen) < 300 {
		t.Errorf("there are no more than %d values", len(u.seen))
	}
}

// P21.3: of all small values of a message no two have the same bytes.
func TestSmallValues(t *testing.T) {
	schema := one(typed(1, api.TyInt32), many(typed(2, api.TyString)), many(typed(3, api.TySint64)), typed(4, api.TyMessage), loose(typed(5, api.TyBool)), many(typed(6, api.TyMessage)), in(typed(7, api.TyBytes)), in(typed(8, api.TyUint32)))
	none, a := api.Tree{}, of(slot(1, n(1)))
	choices := [][]api.Slot{
		{{}, slot(1, n(1)), slot(1, n(minus))},
		{{}, slot(2, s("")), slot(2, s(""), s("")), slot(2, s("\x12\x00")), slot(2, s("a"), s(""))},
		{{}, slot(3, n(0)), slot(3, n(0), n(0)), slot(3, n(0), n(1)), slot(3, n(1), n(0))},
		{{}, slot(4, m(none)), slot(4, m(a)), slot(4, m(of(slot(2, m(none))))), slot(4, m(of(slot(2, m(a))))), slot(4, m(rest(api.Raw{Num: 9, Wire: api.WireBytes})))},
		{{}, slot(5, n(0)), slot(5, n(1), n(0))},
		{{}, slot(6, m(none)), slot(6, m(a), m(none)), slot(6, m(none), m(a)), slot(6, m(of(slot(1, n(1)), slot(2, m(none)))))},
		{{}, slot(7, s("")), slot(7, s("\x40\x00")), slot(8, n(0)), slot(8, n(1))},
	}
	rests := [][]api.Raw{nil, {{Num: 9}, {Num: 9}}, {{Num: 9}, {Num: 10}}, {{Num: 10}, {Num: 9}}, {{Num: 9, Wire: api.WireBytes}}, {{Num: 9, Wire: api.WireBytes, S: "\x48\x00"}}}
	u := unlike{schema, "M", map[string]api.Tree{}}
	var walk func(x api.Tree, left [][]api.Slot)
	walk = func(x api.Tree, left [][]api.Slot) {
		if len(left) == 0 {
			for _, l := range rests {
				u.add(t, api.Tree{Slots: x.Slots, Rest: l})
			}
			return
		}
		for _, y := range left[0] {
			more := x
			if y.Num > 0 {
				more.Slots = append(x.Slots[:len(x.Slots):len(x.Slots)], y)
			}
			walk(more, left[1:])
		}
	}
	walk(api.Tree{}, choices)
	if want := 3 * 5 * 5 * 6 * 3 * 5 * 5 * 6; len(u.seen) != want {
		t.Errorf("%d values have bytes of their own; wanted %d", len(u.seen), want)
	}
}

// pick is one of those.
func pick[T any](r *rand.Rand, l ...T) T {
	return l[r.Intn(len(l))]
}

// chance is a schema by chance that may be.
func chance(r *rand.Rand) api.Schema {
	names := []string{"A", "B", "C"}
	x := api.Schema{Enums: []api.Enum{{Name: "E", Values: []api.Value{{Name: "x"}}}}}
	for _, name := range names {
		mess := api.Message{Name: name}
		at := 0
		for range r.Intn(10) {
			at += 1 + r.Intn(4)*r.Intn(4)
			f := api.Field{Name: "f" + strconv.Itoa(at), Num: at, Type: 1 + r.Intn(15), Rep: r.Intn(2) == 0}
			if r.Intn(4) == 0 {
				f.Type = api.TyMessage
			}
			switch f.Type {
			case api.TyEnum:
				f.Ref = "E"
			case api.TyMessage:
				f.Ref = pick(r, names...)
			}
			f.Loose = f.Rep && (f.Type < 12 || f.Type == 14) && r.Intn(2) == 0
			if !f.Rep && r.Intn(2) == 0 {
				f.One = pick(r, "o", "p")
			}
			mess.Fields = append(mess.Fields, f)
		}
		x.Messages = append(x.Messages, mess)
	}
	return x
}

// drawVal is a value of the field, which is not 0, nor empty, if it would be hidden.
func drawVal(r *rand.Rand, s api.Schema, f api.Field, deep int) api.Val {
	switch f.Type {
	case api.TyMessage:
		return m(draw(r, s, f.Ref, deep-1))
	case api.TyString, api.TyBytes:
		return api.Val{S: strings.Repeat(pick(r, "a", "é"), 1+r.Intn(3)*r.Intn(70))}
	}
	u := num.From(f.Type, r.Uint64()>>r.Intn(64))
	if u == 0 {
		u = 1
	}
	return n(u)
}

// draw is a value of the message of that name, up to so many messages in one another.
func draw(r *rand.Rand, s api.Schema, name string, deep int) api.Tree {
	var t api.Tree
	mess := messageBy(s, name)
	ones := map[string]int{"": -1000}
	for _, f := range mess.Fields {
		if r.Intn(2) == 0 || deep == 1 && f.Type == api.TyMessage || ones[f.One] > 0 {
			continue
		}
		ones[f.One]++
		x := slot(f.Num, drawVal(r, s, f, deep))
		for f.Rep && r.Intn(3) > 0 {
			v := drawVal(r, s, f, deep)
			if f.Type != api.TyMessage && r.Intn(3) == 0 {
				v = api.Val{}
			}
			x.Vals = append(x.Vals, v)
		}
		if f.One != "" && f.Type != api.TyMessage && r.Intn(2) == 0 {
			x.Vals[0] = api.Val{}
		}
		t.Slots = append(t.Slots, x)
	}
	for range r.Intn(3) {
		x := api.Raw{Num: 1 + r.Intn(80), Wire: pick(r, 0, 1, 2, 5), N: uint64(r.Uint32())}
		if x.Wire == api.WireBytes {
			x.N, x.S = 0, pick(r, "", "a", "\xff", "\x08\x01")
		}
		if fieldBy(mess, x.Num) == nil {
			t.Rest = append(t.Rest, x)
		}
	}
	return t
}

// P21.1, P21.2: bytes by the words, of schemas and values by chance. P21.3: the value can be told from them, so no other one has them.
func TestByTheWords(t *testing.T) {
	r := rand.New(rand.NewSource(21))
	long, right := 0, 0
	for range 20000 {
		x, name := good(), pick(r, "Order", "Item", "Box", "Ring")
		if r.Intn(3) > 0 {
			x, name = chance(r), pick(r, "A", "B", "C")
		}
		if e := schema.Check(x); e != api.OK {
			t.Fatal(e, x)
		}
		y := draw(r, x, name, 1+r.Intn(5))
		if !valid.Tree(x, name, y) {
			t.Fatal(short(fmt.Sprintf("no value: %+v", y)))
		}
		want := fieldsBy(x, name, y)
		if len(want) > api.MaxBytes {
			long++
			fails(t, "too long", x, name, y, api.ErrLong)
			continue
		}
		right++
		puts(t, x, name, y, want)
		b, _ := encode.Put(x, name, y)
		if back := readBy(t, x, name, string(b)); !tree.Same(back, y) {
			t.Fatal(short(fmt.Sprintf("Put of %+v: % x: they tell %+v", y, b, back)))
		}
	}
	if right < 10000 {
		t.Errorf("%d values had bytes, %d were too long", right, long)
	}
}

// P21.1: lists by chance, of all types.
func TestPackByTheWords(t *testing.T) {
	r := rand.New(rand.NewSource(211))
	for range 20000 {
		f := api.Field{Type: pick(r, 1, 2, 3, 4, 5, 6, 7, 8, 9, 10, 11, 14)}
		var l []uint64
		want := ""
		for range r.Intn(9) {
			u := r.Uint64() >> r.Intn(64)
			if r.Intn(2) == 0 {
				u = -u
			}
			b, _ := bareBy(f.Type, u)
			l, want = append(l, u), want+b
		}
		packs(t, f, l, want)
	}
}

// P21.2: what stands behind a list, in its room, is not written.
func TestRoomBehindLists(t *testing.T) {
	x := one(many(typed(1, api.TyInt32)), many(typed(2, api.TyMessage)), many(typed(3, api.TyString)))
	slots := []api.Slot{slot(1, n(1), n(2)), slot(2, m(api.Tree{}), m(api.Tree{})), slot(3, s("a"), s("b"))}
	trees := []api.Tree{{}, of(slot(1, n(1)))}
	left := []api.Raw{{Num: 9}, {Num: 10}}
	puts(t, x, "M", of(slots[:1]...), bits("0a 02 01 02"))
	puts(t, x, "M", of(slots[:0]...), "")
	puts(t, x, "M", of(slot(1, slots[0].Vals[:1]...)), bits("0a 01 01"))
	puts(t, x, "M", of(slot(3, slots[2].Vals[:1]...)), bits("1a 01 61"))
	puts(t, x, "M", of(slot(2, m(trees[:1]...))), bits("12 00"))
	puts(t, x, "M", rest(left[:1]...), bits("48 00"))
	packs(t, typed(1, api.TyBool), []uint64{1, 0}[:1], "\x01")
}

// Rule 3: nothing that is handed in is changed, and nothing of it, nor of an earlier answer, is in an answer.
func TestNothingIsSharedOrChanged(t *testing.T) {
	x, y := good(), full()
	was := fmt.Sprintf("%#v %#v", x, y)
	a, _ := encode.Put(x, "Order", y)
	b, _ := encode.Put(x, "Order", y)
	kept := bytes.Clone(a)
	for i := range b {
		b[i] = 0xee
	}
	_ = append(b, 1, 2, 3)
	if now := fmt.Sprintf("%#v %#v", x, y); now != was || !bytes.Equal(a, kept) {
		t.Errorf("changed: %s", short(now))
	}
	puts(t, x, "Order", y, string(kept))
	// What is too long, or no value, is not changed either.
	for _, z := range []api.Tree{around(1, 20, sized(100)), of(slot(2, s(""))), of(slot(4, slices.Repeat([]api.Val{n(1)}, api.MaxBytes)...))} {
		was := fmt.Sprintf("%#v", z)
		encode.Put(x, "Ring", z)
		if now := fmt.Sprintf("%#v", z); now != was {
			t.Errorf("changed: %s", short(now))
		}
	}
	l := []uint64{1, 1<<32 + 2, minus}
	encode.Pack(typed(1, api.TyUint32), l)
	if !slices.Equal(l, []uint64{1, 1<<32 + 2, minus}) {
		t.Errorf("changed: %d", l)
	}
}

// Rule 4: what is answered hangs on what is handed in alone: not on what was asked ahead of it, nor on what is asked meanwhile.
func TestNothingIsKept(t *testing.T) {
	x, y := good(), full()
	want := fieldsBy(x, "Order", y)
	deep, wrong := nest(1, 17), of(slot(2, s("")))
	var all sync.WaitGroup
	for range 8 {
		all.Go(func() {
			for range 200 {
				b, e := encode.Put(x, "Order", y)
				_, e1 := encode.Put(x, "Ring", deep)
				_, e2 := encode.Put(x, "Ring", wrong)
				if e != api.OK || string(b) != want || e1 != api.ErrLong || e2 != api.ErrArg || encode.Pack(typed(1, api.TyBool), []uint64{1, 0}) != "\x01\x00" {
					t.Error("not the same once more")
				}
			}
		})
	}
	all.Wait()
	// What is changed between two calls is read anew.
	y = of(slot(1, n(5)))
	puts(t, x, "Order", y, bits("08 05"))
	y.Slots[0].Vals[0].N = 6
	puts(t, x, "Order", y, bits("08 06"))
	x.Messages[0].Fields[0].Type = api.TyFixed32
	puts(t, x, "Order", y, bits("0d 06 00 00 00"))
	x.Messages[0].Fields[0].Rep = true
	puts(t, x, "Order", y, bits("0a 04 06 00 00 00"))
	x.Messages[0].Fields[0].Loose = true
	puts(t, x, "Order", y, bits("0d 06 00 00 00"))
}

// P21.2: of what may not be, and is handed in nevertheless, all calls end.
func TestSchemasThatMayNotBe(t *testing.T) {
	for _, f := range []api.Field{typed(0, api.TyMessage), typed(-1, api.TyInt32), typed(api.MaxNum+1, api.TyString), many(typed(math.MinInt, api.TyBool)), loose(typed(math.MaxInt, api.TyFixed32)), in(many(typed(1, api.TyMessage))), {Num: 1, Type: api.TyMessage, Ref: "Nowhere"}, {Num: 1}, {Num: 1, Type: 16}} {
		for _, v := range []api.Val{n(1), s("a"), m(api.Tree{}), m(of(slot(1, n(1)))), {}} {
			encode.Put(one(f, f), "M", of(slot(f.Num, v)))
			encode.Put(one(f, f), "M", of(slot(f.Num, v, v)))
		}
	}
	twice := api.Schema{Messages: append(one(typed(1, api.TyInt32)).Messages, one(typed(1, api.TyFixed32)).Messages...)}
	puts(t, twice, "M", of(slot(1, n(1))), bits("08 01"))
}

// Limits: 2^16 trees nested in one another, and very many things beside one another, more than could be written: all calls end, in time.
func TestMuch(t *testing.T) {
	fails(t, "very deep", good(), "Ring", nest(1, 1<<16), api.ErrLong)
	fails(t, "very deep, and wrong", good(), "Ring", around(1, 1<<16-1, rest(api.Raw{Num: 1})), api.ErrArg)
	const much = 1 << 20
	big := strings.Repeat("a", much)
	fails(t, "a great text", good(), "Ring", of(slot(2, s(big))), api.ErrLong)
	// All of them together are as many bytes as there is no room for.
	fails(t, "great texts", good(), "Ring", of(slot(6, slices.Repeat([]api.Val{s(big)}, much)...)), api.ErrLong)
	fails(t, "great fields", good(), "Ring", rest(slices.Repeat([]api.Raw{{Num: 9, Wire: api.WireBytes, S: big}}, much)...), api.ErrLong)
	fails(t, "great messages", good(), "Ring", of(slot(3, slices.Repeat([]api.Val{m(of(slot(2, s(big))))}, much)...)), api.ErrLong)
	fails(t, "many numbers", good(), "Ring", of(slot(4, slices.Repeat([]api.Val{n(1)}, much)...)), api.ErrLong)
	fails(t, "many loose numbers", good(), "Ring", of(slot(5, slices.Repeat([]api.Val{n(1)}, much)...)), api.ErrLong)
	fails(t, "many messages", good(), "Ring", of(slot(3, slices.Repeat([]api.Val{m(nest(1, 15))}, much/16)...)), api.ErrLong)
	packs(t, typed(1, api.TyFixed64), slices.Repeat([]uint64{1}, much), strings.Repeat("\x01\x00\x00\x00\x00\x00\x00\x00", much))
	packs(t, typed(1, api.TyString), slices.Repeat([]uint64{1}, much), "")
}
