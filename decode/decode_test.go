package decode_test

import (
	"bytes"
	"encoding/hex"
	"fmt"
	"math"
	"math/rand"
	"slices"
	"strconv"
	"strings"
	"sync"
	"testing"
	"unicode/utf8"

	"ecdysis/api"
	"ecdysis/decode"
	"ecdysis/encode"
	"ecdysis/num"
	"ecdysis/raw"
	"ecdysis/schema"
	"ecdysis/tree"
	"ecdysis/valid"
)

// good is a schema that may be: fields of all kinds, two oneofs in one message whose fields do not stand side by side, messages in a chain, in a ring, and of themselves, and one without a field. It is made anew each time.
func good() api.Schema {
	return api.Schema{
		Enums: []api.Enum{{Name: "Color", Values: []api.Value{{Name: "red"}, {Name: "blue", Num: 3}}}},
		Messages: []api.Message{
			{Name: "Order", Fields: []api.Field{
				{Name: "id", Num: 1, Type: api.TyUint64},
				{Name: "text", Num: 2, Type: api.TyString, One: "pick"},
				{Name: "item", Num: 4, Type: api.TyMessage, Ref: "Item", Rep: true},
				{Name: "amount", Num: 6, Type: api.TySint32, One: "pick"},
				{Name: "color", Num: 7, Type: api.TyEnum, Ref: "Color"},
				{Name: "spare", Num: 8, Type: api.TyMessage, Ref: "Item", One: "other"},
				{Name: "sole", Num: 9, Type: api.TyMessage, Ref: "Note"},
				{Name: "words", Num: 10, Type: api.TyString, Rep: true},
				{Name: "blob", Num: 20000, Type: api.TyBytes, One: "pick"},
				{Name: "last", Num: api.MaxNum, Type: api.TyInt32, Rep: true, Loose: true},
			}, Barred: []int{3, 5, 19000}},
			{Name: "Box", Fields: []api.Field{
				{Name: "next", Num: 1, Type: api.TyMessage, Ref: "Item", One: "pick"},
				{Name: "none", Num: 3, Type: api.TyBool, One: "pick"},
				{Name: "fix", Num: 5, Type: api.TySfixed64},
				{Name: "small", Num: 6, Type: api.TyFixed32, Rep: true},
			}},
			{Name: "Item", Fields: []api.Field{
				{Name: "size", Num: 1, Type: api.TyEnum, Ref: "Color", Rep: true},
				{Name: "note", Num: 2, Type: api.TyMessage, Ref: "Note"},
				{Name: "box", Num: 3, Type: api.TyMessage, Ref: "Box"},
				{Name: "flag", Num: 11, Type: api.TyBool},
				{Name: "name", Num: 12, Type: api.TyString},
				{Name: "raw", Num: 13, Type: api.TyBytes},
			}},
			{Name: "Note"},
			{Name: "Ring", Fields: []api.Field{
				{Name: "ring", Num: 1, Type: api.TyMessage, Ref: "Ring"},
				{Name: "text", Num: 2, Type: api.TyBytes},
				{Name: "rings", Num: 3, Type: api.TyMessage, Ref: "Ring", Rep: true},
				{Name: "flags", Num: 4, Type: api.TyBool, Rep: true},
				{Name: "bits", Num: 5, Type: api.TyBool, Rep: true, Loose: true},
				{Name: "texts", Num: 6, Type: api.TyBytes, Rep: true},
			}},
		},
	}
}

// full is a value of Order that has all there can be: fields of all kinds, each repeated one with several values, messages four deep, oneofs with a field, also within one another, fields of Rest, also within. It is made anew each time.
func full() api.Tree {
	box := api.Tree{
		Slots: []api.Slot{slot(1, m(of(slot(1, n(7)), slot(11, n(1))))), slot(5, n(math.MaxUint64)), slot(6, n(1), n(2))},
		Rest:  []api.Raw{{Num: 2, Wire: api.WireBytes, S: "in a box"}, {Num: 9, Wire: api.Wire32, N: math.MaxUint32}},
	}
	item := api.Tree{
		Slots: []api.Slot{slot(1, n(0), n(3), n(math.MaxUint64)), slot(2, m(rest(api.Raw{Num: 1, N: 5}))), slot(3, m(box)), slot(11, n(1)), slot(12, s("é")), slot(13, s("\xff"))},
		Rest:  []api.Raw{{Num: 4, N: 1}, {Num: 4, N: 1}, {Num: 20000, Wire: api.Wire64, N: math.MaxUint64}},
	}
	return api.Tree{
		Slots: []api.Slot{slot(1, n(5)), slot(4, m(item), m(api.Tree{}), m(of(slot(3, m(of(slot(3, n(0)))))))), slot(6, n(0)), slot(7, n(77)), slot(8, m(of(slot(12, s("x"))))), slot(9, m(api.Tree{})), slot(10, s(""), s("a"), s("")), slot(api.MaxNum, n(0), n(1<<31-1))},
		Rest:  []api.Raw{{Num: 3, N: 8}, {Num: 19000, Wire: api.WireBytes, S: "barred"}, {Num: 11, Wire: api.WireBytes}, {Num: 3, Wire: api.Wire32}},
	}
}

// of is a tree of those slots.
func of(slots ...api.Slot) api.Tree {
	return api.Tree{Slots: slots}
}

// slot is a slot of those values.
func slot(num int, vals ...api.Val) api.Slot {
	return api.Slot{Num: num, Vals: vals}
}

// rest is a tree of no slots and those fields.
func rest(l ...api.Raw) api.Tree {
	return api.Tree{Rest: l}
}

// n is the value that is a number.
func n(u uint64) api.Val {
	return api.Val{N: u}
}

// s is the value that is a text.
func s(text string) api.Val {
	return api.Val{S: text}
}

// m is the value that is those trees.
func m(l ...api.Tree) api.Val {
	return api.Val{M: l}
}

// one is a schema of a message M with those fields, of a message N with a field of each of the types uint32 and N, and of an enum.
func one(fields ...api.Field) api.Schema {
	return api.Schema{
		Enums:    []api.Enum{{Name: "E", Values: []api.Value{{Name: "x"}, {Name: "y", Num: 3}}}},
		Messages: []api.Message{{Name: "M", Fields: fields}, {Name: "N", Fields: []api.Field{{Name: "a", Num: 1, Type: api.TyUint32}, {Name: "n", Num: 2, Type: api.TyMessage, Ref: "N"}}}},
	}
}

// typed is a field of that type; of TyMessage its message is N.
func typed(num, ty int) api.Field {
	f := api.Field{Name: "f" + strconv.Itoa(num), Num: num, Type: ty}
	if ty == api.TyEnum {
		f.Ref = "E"
	}
	if ty == api.TyMessage {
		f.Ref = "N"
	}
	return f
}

// in is the field in a oneof.
func in(f api.Field) api.Field {
	f.One = "o"
	return f
}

// many is the field with many values.
func many(f api.Field) api.Field {
	f.Rep = true
	return f
}

// loose is the field with many values, which are written one by one.
func loose(f api.Field) api.Field {
	f.Rep, f.Loose = true, true
	return f
}

// bits is the bytes that these digits tell, two each; blanks are left out.
func bits(digits string) string {
	b, err := hex.DecodeString(strings.ReplaceAll(digits, " ", ""))
	if err != nil {
		panic(err)
	}
	return string(b)
}

// short is the text, if it is not too long to be told.
func short(s string) string {
	if len(s) > 3000 {
		return s[:3000] + " .."
	}
	return s
}

// gets asks for just that tree, and that it is one of the message's values (P22.3).
func gets(t *testing.T, x api.Schema, name, b string, want api.Tree) {
	t.Helper()
	got, e := decode.Get(x, name, []byte(b))
	if e != api.OK || !tree.Same(got, want) {
		t.Fatal(short(fmt.Sprintf("Get of %s and % x: %v, %+v; wanted %+v; the schema: %+v", name, b, e, got, want, x)))
	}
	if !valid.Tree(x, name, got) {
		t.Fatal(short(fmt.Sprintf("Get of %s and % x: no value: %+v", name, b, got)))
	}
}

// fails asks for just that error, and the empty tree beside it.
func fails(t *testing.T, what string, x api.Schema, name, b string, want api.Errno) {
	t.Helper()
	got, e := decode.Get(x, name, []byte(b))
	if e != want || len(got.Slots) > 0 || len(got.Rest) > 0 {
		t.Fatal(short(fmt.Sprintf("%s: Get of %s and % x: %v, %+v; wanted the empty tree, and %v; the schema: %+v", what, name, b, e, got, want, x)))
	}
}

// unpacks asks for just those numbers.
func unpacks(t *testing.T, f api.Field, b string, want ...uint64) {
	t.Helper()
	if got, ok := decode.Unpack(f, b); !ok || !slices.Equal(got, want) {
		t.Fatal(short(fmt.Sprintf("Unpack of %+v and % x: %d, %v; wanted %d", f, b, got, ok, want)))
	}
}

// refuses asks that nothing is unpacked.
func refuses(t *testing.T, f api.Field, b string) {
	t.Helper()
	if got, ok := decode.Unpack(f, b); ok || len(got) > 0 {
		t.Fatal(short(fmt.Sprintf("Unpack of %+v and % x: %d, %v; wanted none", f, b, got, ok)))
	}
}

// P22.2: the chapter's example.
func TestExample(t *testing.T) {
	gets(t, one(typed(1, api.TyInt32)), "M", bits("08 05 08 07"), of(slot(1, n(7))))
}

// The schema of these tests may be, and their tree has what it should.
func TestGood(t *testing.T) {
	if e := schema.Check(good()); e != api.OK {
		t.Errorf("the schema: %v", e)
	}
	if deep := tree.Deep(full()); deep != 4 || !valid.Tree(good(), "Order", full()) {
		t.Errorf("the tree is %d deep, or no value", deep)
	}
}

// sample is a value, and the bytes that it has behind the tag.
type sample struct {
	v    api.Val
	wire string
}

const (
	ones  = "ff ff ff ff ff ff ff ff ff 01" // 2^64 - 1, as a number of seven bits a byte
	minus = math.MaxUint64                  // -1
	least = math.MaxUint64 - 1<<31 + 1      // -2^31
	most  = 1<<31 - 1
)

// samples is values of the type, the least and the greatest ones among them, with their bytes, worked out by hand. The first one is not 0, nor empty.
func samples(ty int) []sample {
	switch ty {
	case api.TyInt32, api.TyEnum:
		return []sample{{n(300), "ac 02"}, {n(0), "00"}, {n(1), "01"}, {n(127), "7f"}, {n(128), "80 01"}, {n(most), "ff ff ff ff 07"}, {n(minus), ones}, {n(least), "80 80 80 80 f8 ff ff ff ff 01"}}
	case api.TyInt64:
		return []sample{{n(1 << 32), "80 80 80 80 10"}, {n(0), "00"}, {n(1), "01"}, {n(most), "ff ff ff ff 07"}, {n(1<<63 - 1), "ff ff ff ff ff ff ff ff 7f"}, {n(minus), ones}, {n(least), "80 80 80 80 f8 ff ff ff ff 01"}, {n(1 << 63), "80 80 80 80 80 80 80 80 80 01"}}
	case api.TyUint32:
		return []sample{{n(300), "ac 02"}, {n(0), "00"}, {n(1), "01"}, {n(1 << 31), "80 80 80 80 08"}, {n(1<<32 - 1), "ff ff ff ff 0f"}}
	case api.TyUint64:
		return []sample{{n(300), "ac 02"}, {n(0), "00"}, {n(1), "01"}, {n(1<<32 - 1), "ff ff ff ff 0f"}, {n(1 << 63), "80 80 80 80 80 80 80 80 80 01"}, {n(math.MaxUint64), ones}}
	case api.TySint32:
		return []sample{{n(minus), "01"}, {n(0), "00"}, {n(1), "02"}, {n(minus - 1), "03"}, {n(most), "fe ff ff ff 0f"}, {n(least), "ff ff ff ff 0f"}}
	case api.TySint64:
		return []sample{{n(minus), "01"}, {n(0), "00"}, {n(1), "02"}, {n(minus - 1), "03"}, {n(1 << 32), "80 80 80 80 20"}, {n(1<<63 - 1), "fe ff ff ff ff ff ff ff ff 01"}, {n(1 << 63), ones}}
	case api.TyBool:
		return []sample{{n(1), "01"}, {n(0), "00"}}
	case api.TyFixed32:
		return []sample{{n(258), "02 01 00 00"}, {n(0), "00 00 00 00"}, {n(1 << 31), "00 00 00 80"}, {n(1<<32 - 1), "ff ff ff ff"}}
	case api.TySfixed32:
		return []sample{{n(258), "02 01 00 00"}, {n(0), "00 00 00 00"}, {n(minus), "ff ff ff ff"}, {n(most), "ff ff ff 7f"}, {n(least), "00 00 00 80"}}
	case api.TyFixed64:
		return []sample{{n(258), "02 01 00 00 00 00 00 00"}, {n(0), "00 00 00 00 00 00 00 00"}, {n(1 << 63), "00 00 00 00 00 00 00 80"}, {n(math.MaxUint64), "ff ff ff ff ff ff ff ff"}}
	case api.TySfixed64:
		return []sample{{n(258), "02 01 00 00 00 00 00 00"}, {n(0), "00 00 00 00 00 00 00 00"}, {n(minus), "ff ff ff ff ff ff ff ff"}, {n(1<<63 - 1), "ff ff ff ff ff ff ff 7f"}, {n(1 << 63), "00 00 00 00 00 00 00 80"}}
	case api.TyString:
		return []sample{{s("ab"), "02 61 62"}, {s(""), "00"}, {s("\x00"), "01 00"}, {s("é"), "02 c3 a9"}}
	case api.TyBytes:
		return []sample{{s("ab"), "02 61 62"}, {s(""), "00"}, {s("\xff\x80"), "02 ff 80"}}
	}
	return []sample{{m(of(slot(1, n(5)))), "02 08 05"}, {m(api.Tree{}), "00"}, {m(of(slot(2, m(api.Tree{})))), "02 12 00"}, {m(rest(api.Raw{Num: 3, N: 1})), "02 18 01"}}
}

// ahead is the tag of field 1 ahead of one value of the type.
func ahead(ty int) string {
	switch ty {
	case api.TyFixed32, api.TySfixed32:
		return "0d"
	case api.TyFixed64, api.TySfixed64:
		return "09"
	case api.TyString, api.TyBytes, api.TyMessage:
		return "0a"
	}
	return "08"
}

// isZero tells whether the value, of no message, is the one that a hidden field has not.
func isZero(v api.Val) bool {
	return v.N == 0 && v.S == "" && len(v.M) == 0
}

// isNumber tells whether values of the type are numbers.
func isNumber(ty int) bool {
	return api.TyInt32 <= ty && ty <= api.TySfixed64 || ty == api.TyEnum
}

// P22.2: values of each type, as a field of one value, in a oneof and in none, alone, and behind another one, which is there no more then.
func TestOneValue(t *testing.T) {
	for ty := api.TyInt32; ty <= api.TyMessage; ty++ {
		first := bits(ahead(ty) + samples(ty)[0].wire)
		for _, x := range samples(ty) {
			b := bits(ahead(ty) + x.wire)
			gets(t, one(in(typed(1, ty))), "M", b, of(slot(1, x.v)))
			want := of(slot(1, x.v))
			if ty != api.TyMessage && isZero(x.v) {
				want = api.Tree{}
			}
			gets(t, one(typed(1, ty)), "M", b, want)
			if ty != api.TyMessage {
				gets(t, one(in(typed(1, ty))), "M", first+b, of(slot(1, x.v)))
				gets(t, one(typed(1, ty)), "M", first+b, want)
				gets(t, one(typed(1, ty)), "M", b+first, of(slot(1, samples(ty)[0].v)))
				gets(t, one(typed(1, ty)), "M", first+b+first+b, want)
			}
		}
	}
}

// P22.1, P22.2: values of each type, as a repeated field: numbers as one text and one by one, and both ways in one text, whether it is Loose or not; all else one by one.
func TestManyValues(t *testing.T) {
	for ty := api.TyInt32; ty <= api.TyMessage; ty++ {
		var all []api.Val
		var nums []uint64
		var inner, each string
		for _, x := range samples(ty) {
			all, nums = append(all, x.v), append(nums, x.v.N)
			inner, each = inner+bits(x.wire), each+bits(ahead(ty)+x.wire)
		}
		for _, x := range samples(ty) {
			gets(t, one(many(typed(1, ty))), "M", bits(ahead(ty)+x.wire), of(slot(1, x.v)))
		}
		gets(t, one(many(typed(1, ty))), "M", each, of(slot(1, all...)))
		gets(t, one(many(typed(1, ty))), "M", each+each, of(slot(1, append(slices.Clone(all), all...)...)))
		if !isNumber(ty) {
			refuses(t, many(typed(1, ty)), inner)
			continue
		}
		unpacks(t, many(typed(1, ty)), inner, nums...)
		for _, x := range samples(ty) {
			unpacks(t, many(typed(1, ty)), bits(x.wire), x.v.N)
		}
		for _, f := range []api.Field{many(typed(1, ty)), loose(typed(1, ty))} {
			for _, x := range samples(ty) {
				gets(t, one(f), "M", text(1, bits(x.wire)), of(slot(1, x.v)))
				gets(t, one(f), "M", bits(ahead(ty)+x.wire), of(slot(1, x.v)))
				gets(t, one(f), "M", bits(ahead(ty)+x.wire)+text(1, inner)+bits(ahead(ty)+x.wire), of(slot(1, append(append([]api.Val{x.v}, all...), x.v)...)))
			}
			gets(t, one(f), "M", text(1, inner), of(slot(1, all...)))
			gets(t, one(f), "M", each, of(slot(1, all...)))
			gets(t, one(f), "M", text(1, inner)+each+text(1, inner), of(slot(1, append(append(slices.Clone(all), all...), all...)...)))
		}
	}
}

// P22.1, P22.2: numbers on the wire that no value is put as: those with more bits than the type has, and those with more bytes than they need.
func TestNumbersThatAreNotPutSo(t *testing.T) {
	for _, x := range []struct {
		ty   int
		wire string
		want uint64
	}{
		{api.TyInt32, "ff ff ff ff 0f", minus}, {api.TyInt32, "80 80 80 80 08", least}, {api.TyInt32, "80 80 80 80 10", 0}, {api.TyInt32, "85 80 80 80 10", 5}, {api.TyInt32, "80 80 80 80 80 80 80 80 80 01", 0}, {api.TyInt32, "ff ff ff ff f7 ff ff ff ff 01", most},
		{api.TyEnum, "ff ff ff ff 0f", minus}, {api.TyEnum, "80 80 80 80 10", 0}, {api.TyEnum, "83 80 80 80 10", 3}, {api.TyEnum, "4d", 77},
		{api.TyInt64, "ff ff ff ff 0f", 1<<32 - 1}, {api.TyInt64, "85 80 80 80 80 80 80 80 80 00", 5}, {api.TyInt64, "80 00", 0},
		{api.TyUint32, "80 80 80 80 10", 0}, {api.TyUint32, "85 80 80 80 10", 5}, {api.TyUint32, ones, 1<<32 - 1},
		{api.TyUint64, "85 00", 5}, {api.TyUint64, "ac 82 00", 300}, {api.TyUint64, "80 80 80 80 80 80 80 80 80 00", 0},
		{api.TySint32, "80 80 80 80 10", 0}, {api.TySint32, "81 80 80 80 10", minus}, {api.TySint32, ones, least}, {api.TySint32, "82 00", 1},
		{api.TySint64, "81 80 00", minus}, {api.TySint64, "81 80 80 80 10", math.MaxUint64 - 1<<31},
		{api.TyBool, "02", 1}, {api.TyBool, "80 01", 1}, {api.TyBool, "80 80 80 80 10", 1}, {api.TyBool, "80 80 80 80 80 80 80 80 80 01", 1}, {api.TyBool, ones, 1}, {api.TyBool, "80 00", 0}, {api.TyBool, "81 00", 1},
	} {
		b := bits(x.wire)
		unpacks(t, typed(1, x.ty), b, x.want)
		unpacks(t, typed(1, x.ty), "\x01"+b+b, append([]uint64{num.From(x.ty, 1)}, x.want, x.want)...)
		gets(t, one(in(typed(1, x.ty))), "M", "\x08"+b, of(slot(1, n(x.want))))
		gets(t, one(loose(typed(1, x.ty))), "M", "\x08"+b+"\x08"+b, of(slot(1, n(x.want), n(x.want))))
		gets(t, one(many(typed(1, x.ty))), "M", "\x08"+b+text(1, b+b), of(slot(1, n(x.want), n(x.want), n(x.want))))
		want := of(slot(1, n(x.want)))
		if x.want == 0 {
			want = api.Tree{}
		}
		gets(t, one(typed(1, x.ty)), "M", "\x08\x01\x08"+b, want)
	}
	// Tags and lengths, too, may have more bytes than they need.
	gets(t, one(typed(1, api.TyInt32)), "M", bits("88 80 00 05"), of(slot(1, n(5))))
	gets(t, one(typed(1, api.TyString)), "M", bits("8a 00 81 80 00 61"), of(slot(1, s("a"))))
	gets(t, one(typed(1, api.TyMessage)), "M", bits("0a 82 00 08 05"), of(slot(1, m(of(slot(1, n(5)))))))
	gets(t, one(many(typed(1, api.TyBool))), "M", bits("0a 81 00 01"), of(slot(1, n(1))))
	gets(t, one(), "M", bits("c8 00 85 00"), rest(api.Raw{Num: 9, N: 5}))
}

// anyType is all types that there are, and some that there are not.
func anyType() []int {
	return []int{-1, 0, 1, 2, 3, 4, 5, 6, 7, 8, 9, 10, 11, 12, 13, 14, 15, 16, 17, 1 << 8, 1<<8 + 1, 1<<32 + 1, math.MinInt, math.MinInt + 1, math.MaxInt}
}

// P22.1: no bytes are no numbers, of a number type; and of another one there are never any.
func TestUnpackOfNothing(t *testing.T) {
	for _, ty := range anyType() {
		for _, f := range []api.Field{typed(1, ty), in(typed(1, ty)), many(typed(1, ty)), loose(typed(1, ty))} {
			if isNumber(ty) {
				unpacks(t, f, "")
				continue
			}
			for _, b := range []string{"", "\x00", "\x01", "\x01\x02\x03\x04", "abcdefgh", "\x80", "\xff"} {
				refuses(t, f, b)
			}
		}
	}
}

// P22.1: nothing but the type says what the numbers are: what is wrong with the field does not matter, nor whether it is Packed.
func TestUnpackOfAnyField(t *testing.T) {
	for _, f := range []api.Field{{}, {Name: "1", Num: -1}, {Num: 19000, Rep: true, One: "o"}, {Num: math.MaxInt, Loose: true, Ref: "\xff"}, {Num: 1, Rep: true, Loose: true}} {
		for ty := api.TyInt32; ty <= api.TyMessage; ty++ {
			f.Type = ty
			for _, x := range samples(ty) {
				if !isNumber(ty) {
					refuses(t, f, bits(x.wire))
					continue
				}
				unpacks(t, f, bits(x.wire+x.wire), x.v.N, x.v.N)
				refuses(t, f, bits(x.wire+x.wire)+"\x80")
			}
		}
	}
}

// P22.1, P22.2: bytes that end within a number, or in which there is none; what stands ahead of it is not told either.
func TestPackedBytesThatAreNoNumbers(t *testing.T) {
	for _, x := range []struct{ digits, types string }{
		{"80", "v"}, {"01 80", "v"}, {"ff ff ff ff ff ff ff ff ff", "v"}, {"ff ff ff ff ff ff ff ff ff 02", "v"}, {"ff ff ff ff ff ff ff ff ff 7f", "v"}, {"80 80 80 80 80 80 80 80 80 80", "v"}, {"80 80 80 80 80 80 80 80 80 80 00", "v"}, {"80 80 80 80 80 80 80 80 80 81 00", "v"}, {"01 ff ff ff ff ff ff ff ff ff 02 01", "v"},
		{"00", "48"}, {"00 00", "48"}, {"00 00 00", "48"}, {"00 00 00 00", "8"}, {"00 00 00 00 00", "48"}, {"01 01 01 01 01 01", "48"}, {"01 01 01 01 01 01 01", "48"}, {"01 00 00 00 01 00 00 00 01", "48"}, {"01 00 00 00 01 00 00 00 01 00 00 00", "8"}, {"01 00 00 00 01 00 00 00 01 00 00 00 01 00 00", "48"},
	} {
		for ty := api.TyInt32; ty <= api.TyEnum; ty++ {
			kind := map[string]string{"08": "v", "0d": "4", "09": "8"}[ahead(ty)]
			if kind == "" || !strings.Contains(x.types, kind) {
				continue
			}
			refuses(t, typed(1, ty), bits(x.digits))
			for _, f := range []api.Field{many(typed(1, ty)), loose(typed(1, ty))} {
				b := text(1, bits(x.digits))
				right := bits(ahead(ty) + samples(ty)[0].wire)
				fails(t, "packed", one(f), "M", b, api.ErrBad)
				fails(t, "packed, behind and ahead of values", one(f), "M", right+b+right, api.ErrBad)
			}
		}
	}
	// Whatever of a list of numbers is left out, if it is no whole number: the bytes that are there are none.
	for ty := api.TyInt32; ty <= api.TyEnum; ty++ {
		if !isNumber(ty) {
			continue
		}
		var all string
		ends := map[int]bool{0: true}
		for _, x := range samples(ty) {
			all += bits(x.wire)
			ends[len(all)] = true
		}
		for at := range len(all) {
			if nums, ok := decode.Unpack(typed(1, ty), all[:at]); ok != ends[at] || !ok && len(nums) > 0 {
				t.Errorf("Unpack of type %d and % x: %d, %v", ty, all[:at], nums, ok)
			}
		}
	}
}

// fullBytes is the bytes that full is put as, worked out by hand, and those of the trees in it.
func fullBytes() (order, item, box string) {
	box = bits("0a 05 0a 01 07 58 01" + "29 ff ff ff ff ff ff ff ff" + "32 08 01 00 00 00 02 00 00 00" + "12 08 69 6e 20 61 20 62 6f 78" + "4d ff ff ff ff")
	item = bits("0a 0c 00 03"+ones+"12 02 08 05"+"1a 29") + box + bits("58 01"+"62 02 c3 a9"+"6a 01 ff"+"20 01 20 01"+"81 e2 09 ff ff ff ff ff ff ff ff")
	order = bits("08 05"+"22 55") + item + bits("22 00"+"22 04 1a 02 18 00"+"30 00"+"38 4d"+"42 03 62 01 78"+"4a 00"+"52 00 52 01 61 52 00"+
		"f8 ff ff ff 0f 00"+"f8 ff ff ff 0f ff ff ff ff 07"+"18 08"+"c2 a3 09 06 62 61 72 72 65 64"+"5a 00"+"1d 00 00 00 00")
	return order, item, box
}

// P22.2: fields of all kinds and numbers, messages in messages, and fields that are not known, in each message.
func TestFull(t *testing.T) {
	order, item, box := fullBytes()
	gets(t, good(), "Order", order, full())
	items := full().Slots[1].Vals
	gets(t, good(), "Item", item, items[0].M[0])
	gets(t, good(), "Item", "", items[1].M[0])
	gets(t, good(), "Item", bits("1a 02 18 00"), items[2].M[0])
	gets(t, good(), "Box", box, items[0].M[0].Slots[2].Vals[0].M[0])
}

// P22.2: slots rise, in whatever order the fields stand; fields of one number, and those that are not known, stay in the order that they have.
func TestAnyOrder(t *testing.T) {
	order, _, _ := fullBytes()
	var fields []string
	places := []int{}
	for at := range raw.Each([]byte(order)) {
		places = append(places, at)
	}
	for i, at := range places {
		end := len(order)
		if i+1 < len(places) {
			end = places[i+1]
		}
		fields = append(fields, order[at:end])
	}
	num := func(b string) int {
		l, _ := raw.Get([]byte(b))
		if fieldBy(messageBy(good(), "Order"), l[0].Num) == nil {
			return 0
		}
		return l[0].Num
	}
	r := rand.New(rand.NewSource(3))
	for range 500 {
		// Of those of one number each stands where one of that number came to stand, in the order that they had.
		mixed := slices.Clone(fields)
		r.Shuffle(len(mixed), func(i, k int) { mixed[i], mixed[k] = mixed[k], mixed[i] })
		left := map[int][]string{}
		for _, b := range fields {
			left[num(b)] = append(left[num(b)], b)
		}
		for i, b := range mixed {
			mixed[i] = left[num(b)][0]
			left[num(b)] = left[num(b)][1:]
		}
		gets(t, good(), "Order", strings.Join(mixed, ""), full())
	}
}

// P22.2: no bytes are the empty tree, of every message.
func TestNoBytes(t *testing.T) {
	for _, mess := range good().Messages {
		gets(t, good(), mess.Name, "", api.Tree{})
	}
	if got, e := decode.Get(good(), "Order", nil); e != api.OK || !tree.Same(got, api.Tree{}) {
		t.Errorf("%v, %+v", e, got)
	}
	gets(t, good(), "Order", bits("4a 00"), of(slot(9, m(api.Tree{}))))
	gets(t, good(), "Ring", bits("0a 04 0a 02 0a 00"), of(slot(1, m(of(slot(1, m(of(slot(1, m(api.Tree{}))))))))))
}

// P22.2: a message that comes once more is laid into the one that is there, as if both stood one behind the other; of a repeated field each is one of its own.
func TestMessagesThatComeTwice(t *testing.T) {
	x := one(typed(1, api.TyMessage), many(typed(2, api.TyMessage)), in(typed(3, api.TyMessage)), in(typed(4, api.TyInt32)), in(typed(5, api.TyMessage)))
	val := func(u uint64) api.Val { return m(of(slot(1, n(u)))) }
	for _, y := range []struct {
		digits string
		want   api.Tree
	}{
		{"0a 02 08 05 0a 02 08 07", of(slot(1, val(7)))}, {"0a 02 08 05 0a 00", of(slot(1, val(5)))}, {"0a 00 0a 02 08 05", of(slot(1, val(5)))}, {"0a 00 0a 00", of(slot(1, m(api.Tree{})))},
		{"0a 02 08 05 0a 02 08 00", of(slot(1, m(api.Tree{})))}, {"0a 02 08 05 0a 02 12 00", of(slot(1, m(of(slot(1, n(5)), slot(2, m(api.Tree{}))))))},
		{"0a 04 12 02 08 05 0a 02 08 07 0a 04 12 02 12 00", of(slot(1, m(of(slot(1, n(7)), slot(2, m(of(slot(1, n(5)), slot(2, m(api.Tree{})))))))))},
		{"0a 02 48 01 0a 02 50 01 48 00 0a 02 48 02", api.Tree{Slots: []api.Slot{slot(1, m(rest(api.Raw{Num: 9, N: 1}, api.Raw{Num: 10, N: 1}, api.Raw{Num: 9, N: 2})))}, Rest: []api.Raw{{Num: 9}}}},
		{"12 02 08 05 12 02 08 07 12 00", of(slot(2, val(5), val(7), m(api.Tree{})))}, {"12 04 12 02 08 05 12 04 12 02 08 07", of(slot(2, m(of(slot(2, val(5)))), m(of(slot(2, val(7))))))},
		// In a oneof it is laid into the one that is there, if that is there still.
		{"1a 02 08 05 1a 02 12 00", of(slot(3, m(of(slot(1, n(5)), slot(2, m(api.Tree{}))))))}, {"1a 02 08 05 20 01 1a 02 12 00", of(slot(3, m(of(slot(2, m(api.Tree{}))))))},
		{"1a 02 08 05 2a 00 1a 00", of(slot(3, m(api.Tree{})))}, {"1a 02 08 05 2a 02 08 07", of(slot(5, val(7)))}, {"1a 02 08 05 0a 00 1a 00", of(slot(1, m(api.Tree{})), slot(3, val(5)))},
	} {
		gets(t, x, "M", bits(y.digits), y.want)
	}
	// Within the message, too: repeated fields, packed and not, oneofs, fields that are hidden.
	item := of(slot(1, n(1), n(2), n(3)), slot(3, m(of(slot(3, n(0)), slot(6, n(1), n(2))))), slot(12, s("b")))
	inner := func(b string) string { return text(8, b) }
	first, last := bits("0a 02 01 02 58 01 62 01 61")+text(3, bits("0a 02 58 01 35 01 00 00 00")), bits("08 03 58 00 62 01 62")+text(3, bits("18 00 32 04 02 00 00 00"))
	gets(t, good(), "Order", inner(first)+inner(last), of(slot(8, m(item))))
	gets(t, good(), "Order", inner(first+last), of(slot(8, m(item))))
	gets(t, good(), "Order", inner(first)+bits("08 05 28 01")+inner(last), api.Tree{Slots: []api.Slot{slot(1, n(5)), slot(8, m(item))}, Rest: []api.Raw{{Num: 5, N: 1}}})
	// A fault in the one that comes later is one.
	fails(t, "twice", x, "M", bits("0a 02 08 05 0a 01 08"), api.ErrBad)
	fails(t, "twice", x, "M", bits("0a 02 08 05 0a 03 0d 01 00"), api.ErrBad)
	fails(t, "twice", x, "M", bits("0a 02 08 05 0a 02 0a 00"), api.ErrBad)
}

// P22.2: wherever a message's fields are cut in two, they are read as one message.
func TestMessagesCutInTwo(t *testing.T) {
	order, _, _ := fullBytes()
	x := api.Schema{Enums: good().Enums, Messages: append([]api.Message{{Name: "Root", Fields: []api.Field{{Name: "a", Num: 1, Type: api.TyMessage, Ref: "Order"}, {Name: "b", Num: 2, Type: api.TyMessage, Ref: "Order", One: "o"}, {Name: "c", Num: 3, Type: api.TyMessage, Ref: "Order", Rep: true}}}}, good().Messages...)}
	for at := range raw.Each([]byte(order)) {
		gets(t, x, "Root", text(1, order[:at])+text(1, order[at:]), of(slot(1, m(full()))))
		gets(t, x, "Root", text(2, order[:at])+text(1, "")+text(2, order[at:]), of(slot(1, m(api.Tree{})), slot(2, m(full()))))
		first, e1 := decode.Get(x, "Order", []byte(order[:at]))
		last, e2 := decode.Get(x, "Order", []byte(order[at:]))
		if e1 != api.OK || e2 != api.OK {
			t.Fatal(e1, e2)
		}
		gets(t, x, "Root", text(3, order[:at])+text(3, order[at:]), of(slot(3, m(first), m(last))))
	}
}

// P22.2: of fields of a oneof, one behind another, the last one is there alone; other oneofs, and fields of none, are not touched.
func TestOneofs(t *testing.T) {
	x := one(in(typed(1, api.TyInt32)), typed(2, api.TyInt32), in(typed(3, api.TyString)), in(typed(4, api.TyMessage)), typed(5, api.TyBool), typed(6, api.TyBytes), many(typed(7, api.TyInt32)), in(typed(8, api.TyEnum)))
	x.Messages[0].Fields[4].One, x.Messages[0].Fields[5].One = "p", "p"
	for _, y := range []struct {
		digits string
		want   api.Tree
	}{
		{"08 05 1a 01 61", of(slot(3, s("a")))}, {"1a 01 61 08 05", of(slot(1, n(5)))}, {"08 05 1a 00", of(slot(3, s("")))}, {"1a 01 61 08 00", of(slot(1, n(0)))}, {"08 05 08 00", of(slot(1, n(0)))}, {"08 00 08 05", of(slot(1, n(5)))},
		{"08 05 22 00", of(slot(4, m(api.Tree{})))}, {"22 02 08 05 08 05", of(slot(1, n(5)))}, {"08 05 1a 00 22 00 40 03", of(slot(8, n(3)))}, {"40 03 22 00 1a 00 08 00", of(slot(1, n(0)))}, {"08 05 1a 01 61 08 07", of(slot(1, n(7)))},
		{"08 05 28 01", of(slot(1, n(5)), slot(5, n(1)))}, {"08 05 28 01 32 00", of(slot(1, n(5)), slot(6, s("")))}, {"08 05 32 00 1a 00 28 00", of(slot(3, s("")), slot(5, n(0)))},
		{"10 01 08 05 3a 02 01 02 22 00", of(slot(2, n(1)), slot(4, m(api.Tree{})), slot(7, n(1), n(2)))}, {"08 05 10 00 3a 00", of(slot(1, n(5)))},
		{"08 05 22 02 08 07 28 01", of(slot(4, m(of(slot(1, n(7))))), slot(5, n(1)))},
	} {
		gets(t, x, "M", bits(y.digits), y.want)
	}
	// A oneof of that name in a message within is another one.
	gets(t, good(), "Item", text(3, bits("18 00"))+text(3, bits("0a 00")), of(slot(3, m(of(slot(1, m(api.Tree{})))))))
	gets(t, good(), "Order", bits("12 01 61")+text(8, text(3, bits("18 00"))), of(slot(2, s("a")), slot(8, m(of(slot(3, m(of(slot(3, n(0))))))))))
	// Which field comes last is what counts, whatever ones came ahead of it.
	fields := []string{bits("08 05"), bits("1a 01 61"), bits("22 02 08 05"), bits("40 03")}
	vals := []api.Slot{slot(1, n(5)), slot(3, s("a")), slot(4, m(of(slot(1, n(5))))), slot(8, n(3))}
	for i := range 256 {
		gets(t, x, "M", fields[i/64]+fields[i/16%4]+fields[i/4%4]+fields[i%4], of(vals[i%4]))
	}
}

// P22.2: fields that the message does not know, of every wire type, between those that it knows, come to Rest as they are, in their order.
func TestUnknown(t *testing.T) {
	for _, y := range []struct {
		x      api.Raw
		digits string
	}{
		{api.Raw{Num: 3}, "18 00"}, {api.Raw{Num: 3, N: 300}, "18 ac 02"}, {api.Raw{Num: 3, N: math.MaxUint64}, "18" + ones},
		{api.Raw{Num: 3, Wire: api.Wire64}, "19 00 00 00 00 00 00 00 00"}, {api.Raw{Num: 3, Wire: api.Wire64, N: 258}, "19 02 01 00 00 00 00 00 00"}, {api.Raw{Num: 3, Wire: api.Wire64, N: math.MaxUint64}, "19 ff ff ff ff ff ff ff ff"},
		{api.Raw{Num: 3, Wire: api.WireBytes}, "1a 00"}, {api.Raw{Num: 3, Wire: api.WireBytes, S: "\xff\x00"}, "1a 02 ff 00"}, {api.Raw{Num: 3, Wire: api.WireBytes, S: "\x0b"}, "1a 01 0b"},
		{api.Raw{Num: 3, Wire: api.Wire32}, "1d 00 00 00 00"}, {api.Raw{Num: 3, Wire: api.Wire32, N: 258}, "1d 02 01 00 00"}, {api.Raw{Num: 3, Wire: api.Wire32, N: math.MaxUint32}, "1d ff ff ff ff"},
		{api.Raw{Num: 15, N: 1}, "78 01"}, {api.Raw{Num: 16, N: 1}, "80 01 01"}, {api.Raw{Num: 19000, N: 1}, "c0 a3 09 01"}, {api.Raw{Num: api.MaxNum, Wire: api.Wire32, N: 1}, "fd ff ff ff 0f 01 00 00 00"},
	} {
		x := one(many(typed(1, api.TyInt32)), typed(5, api.TyMessage), typed(20, api.TyString))
		x.Messages[0].Barred = []int{3, 15}
		b := bits(y.digits)
		other := api.Raw{Num: 2, Wire: api.WireBytes, S: "a"}
		gets(t, x, "M", b, rest(y.x))
		gets(t, x, "M", b+b, rest(y.x, y.x))
		gets(t, x, "M", b+bits("12 01 61")+b, rest(y.x, other, y.x))
		gets(t, x, "M", bits("12 01 61")+b+bits("12 01 61"), rest(other, y.x, other))
		all := api.Tree{Slots: []api.Slot{slot(1, n(1), n(2)), slot(5, m(rest(y.x, y.x))), slot(20, s("b"))}, Rest: []api.Raw{y.x, other, y.x}}
		gets(t, x, "M", bits("08 01")+b+bits("a2 01 01 62")+bits("12 01 61")+text(5, b+b)+b+bits("0a 01 02"), all)
		gets(t, x, "M", b+text(5, b)+bits("a2 01 01 62 12 01 61 0a 02 01 02")+text(5, b)+b, all)
	}
	// A message without a field knows none.
	gets(t, good(), "Note", bits("08 01 12 01 61 08 01"), rest(api.Raw{Num: 1, N: 1}, api.Raw{Num: 2, Wire: api.WireBytes, S: "a"}, api.Raw{Num: 1, N: 1}))
	// What one message knows another one need not.
	gets(t, good(), "Order", text(9, bits("08 01"))+bits("08 01"), of(slot(1, n(1)), slot(9, m(rest(api.Raw{Num: 1, N: 1})))))
}

// noFields is bytes that are no field, worked out by hand.
func noFields() []string {
	l := []string{
		"00", "00 00", "01 00 00 00 00 00 00 00 00", "02 00", "05 00 00 00 00", // no number 0
		"80 00", "80", "88", "ff ff ff ff ff ff ff ff ff 01", "ff ff ff ff ff ff ff ff ff 02 00", "80 80 80 80 80 80 80 80 80 80 01 00",
		"80 80 80 80 10 00", "82 80 80 80 10 00", "85 80 80 80 80 01 00 00 00 00", "88 80 80 80 80 80 80 80 80 01 00", // above MaxNum
		"88 80 80 80 80 80 80 80 80 02 00",
	}
	for _, num := range []byte{1, 3, 15} {
		for _, wire := range []byte{3, 4, 6, 7} {
			l = append(l, hex.EncodeToString([]byte{num*8 + wire}), hex.EncodeToString([]byte{num*8 + wire, 0, 0, 0, 0, 0, 0, 0, 0}))
		}
	}
	return l
}

// noValues is what stands behind a tag of that wire type, and is nothing that may stand there.
func noValues(wire int) []string {
	switch wire {
	case api.WireVarint:
		return []string{"", "80", "ff ff ff ff ff ff ff ff ff", "ff ff ff ff ff ff ff ff ff 02", "ff ff ff ff ff ff ff ff ff 7f", "80 80 80 80 80 80 80 80 80 80 00"}
	case api.Wire64:
		return []string{"", "01", "01 02 03 04", "01 02 03 04 05 06 07"}
	case api.Wire32:
		return []string{"", "01", "01 02 03"}
	}
	return []string{"", "01", "02 61", "80", "80 01", "05 61 61 61 61", "ff ff ff ff 07", "80 80 80 80 10", "80 80 80 80 80 80 80 80 80 01", ones, "ff ff ff ff ff ff ff ff ff 02 61"}
}

// P22.2: what is no field ends the reading, wherever it stands, of fields that are known and of others; what stands ahead of it is not told.
func TestNoField(t *testing.T) {
	all := noFields()
	for _, num := range []int{1, 2, 3, 4, 5, 6, 7, 9} {
		for _, wire := range []int{0, 1, 2, 5} {
			for _, digits := range noValues(wire) {
				all = append(all, hex.EncodeToString([]byte(number(uint64(num*8+wire))))+digits)
			}
		}
	}
	x := one(typed(1, api.TyInt32), typed(2, api.TyString), typed(3, api.TyFixed64), typed(4, api.TyFixed32), typed(5, api.TyMessage), many(typed(6, api.TyBool)), many(typed(7, api.TyMessage)), in(typed(8, api.TyBytes)))
	for _, digits := range all {
		b := bits(digits)
		fails(t, "no field", x, "M", b, api.ErrBad)
		fails(t, "no field", x, "M", bits("08 05 48 01 2a 02 08 05")+b, api.ErrBad)
		for _, num := range []int{5, 7} {
			// What stands behind the message is none of its fields.
			fails(t, "no field within", x, "M", text(num, b), api.ErrBad)
			fails(t, "no field within", x, "M", text(num, b)+"\x08\x01\x08\x01\x08\x01\x08\x01\x08\x01\x08\x01", api.ErrBad)
			fails(t, "no field within", x, "M", text(num, text(2, text(2, bits("08 01")+b)))+bits("08 01"), api.ErrBad)
		}
	}
}

// P22.2: bytes that end within a field are none, in whatever message they end; those that end behind one are.
func TestCutBytes(t *testing.T) {
	order, item, box := fullBytes()
	for name, b := range map[string]string{"Order": order, "Item": item, "Box": box} {
		for at := range len(b) {
			_, e := raw.Get([]byte(b[:at]))
			if e != api.OK {
				fails(t, "cut", good(), name, b[:at], api.ErrBad)
				continue
			}
			if _, e := decode.Get(good(), name, []byte(b[:at])); e != api.OK {
				t.Errorf("Get of %s and % x: %v", name, b[:at], e)
			}
		}
	}
	// Within a message of the right length, too.
	for at := range len(box) {
		_, want := raw.Get([]byte(box[:at]))
		if _, e := decode.Get(good(), "Item", []byte(text(3, box[:at])+bits("58 01"))); e != want {
			t.Errorf("Get of a message of % x: %v; wanted %v", box[:at], e, want)
		}
	}
}

// P22.2: fields of each type, with each wire type.
func TestWireTypes(t *testing.T) {
	wires := map[int]string{api.WireVarint: "01", api.Wire64: "01 00 00 00 00 00 00 00", api.WireBytes: "00", api.Wire32: "01 00 00 00"}
	own := map[string]int{"08": api.WireVarint, "09": api.Wire64, "0a": api.WireBytes, "0d": api.Wire32}
	for ty := api.TyInt32; ty <= api.TyMessage; ty++ {
		for wire, digits := range wires {
			b := string([]byte{byte(8 + wire)}) + bits(digits)
			for _, f := range []api.Field{typed(1, ty), in(typed(1, ty)), many(typed(1, ty)), loose(typed(1, ty))} {
				if f.Loose && !isNumber(ty) {
					continue
				}
				_, e := decode.Get(one(f), "M", []byte(b))
				want := api.ErrBad
				if wire == own[ahead(ty)] || wire == api.WireBytes && f.Rep && isNumber(ty) {
					want = api.OK
				}
				if e != want {
					t.Errorf("Get of %+v and % x: %v; wanted %v", f, b, e, want)
				}
				if want == api.ErrBad {
					right := bits(ahead(ty) + samples(ty)[0].wire)
					fails(t, "another wire type", one(f), "M", right+b+right, api.ErrBad)
					around := one(f)
					around.Messages = append([]api.Message{{Name: "L", Fields: []api.Field{{Name: "a", Num: 4, Type: api.TyMessage, Ref: "M"}}}}, around.Messages...)
					fails(t, "another wire type within", around, "L", text(4, b), api.ErrBad)
					// Of a field that is not known it may be.
					gets(t, around, "L", b, rest(rawOf(b)))
				}
			}
		}
	}
	// A field that is not Rep has no packed values, not even one, nor none.
	for _, digits := range []string{"0a 00", "0a 01 05", "0a 02 05 05", "08 05 0a 00"} {
		fails(t, "packed", one(typed(1, api.TyInt32)), "M", bits(digits), api.ErrBad)
		fails(t, "packed", one(in(typed(1, api.TyUint64))), "M", bits(digits), api.ErrBad)
	}
	fails(t, "packed", one(typed(1, api.TyFixed32)), "M", bits("0a 04 01 00 00 00"), api.ErrBad)
	fails(t, "packed", one(typed(1, api.TySfixed64)), "M", bits("0a 08 01 00 00 00 00 00 00 00"), api.ErrBad)
}

// rawOf is the one field that the bytes are.
func rawOf(b string) api.Raw {
	l, _ := raw.Get([]byte(b))
	return l[0]
}

// P22.2: an empty packed field lays nothing: no slot is there for it, and values that are there stay.
func TestEmptyPackedFields(t *testing.T) {
	for ty := api.TyInt32; ty <= api.TyEnum; ty++ {
		if !isNumber(ty) {
			continue
		}
		x := samples(ty)[0]
		right := bits(ahead(ty) + x.wire)
		for _, f := range []api.Field{many(typed(1, ty)), loose(typed(1, ty))} {
			gets(t, one(f), "M", bits("0a 00"), api.Tree{})
			gets(t, one(f), "M", bits("0a 00 0a 00"), api.Tree{})
			gets(t, one(f), "M", right+bits("0a 00"), of(slot(1, x.v)))
			gets(t, one(f), "M", bits("0a 00")+right, of(slot(1, x.v)))
			gets(t, one(f), "M", right+bits("0a 00")+right+bits("0a 00"), of(slot(1, x.v, x.v)))
			gets(t, one(f, typed(2, api.TyBool)), "M", bits("10 01 0a 00 48 01"), api.Tree{Slots: []api.Slot{slot(2, n(1))}, Rest: []api.Raw{{Num: 9, N: 1}}})
		}
	}
	// Texts and messages are no packed fields: an empty one is one that is there.
	for _, ty := range []int{api.TyString, api.TyBytes} {
		gets(t, one(many(typed(1, ty))), "M", bits("0a 00 0a 00"), of(slot(1, s(""), s(""))))
	}
	gets(t, one(many(typed(1, api.TyMessage))), "M", bits("0a 00 0a 00"), of(slot(1, m(api.Tree{}), m(api.Tree{}))))
}

// P22.2: texts that are not UTF-8, as TyString and as TyBytes.
func TestTexts(t *testing.T) {
	for _, y := range []string{"\xff", "\x80", "a\xc3", "\xc3", "\xc3a", "\xc0\x80", "\xe2\x82", "\xed\xa0\x80", "\xf4\x90\x80\x80", "\xf8\x88\x80\x80\x80", "ab\xffcd", strings.Repeat("é", 200) + "\xc3", "\xa9" + strings.Repeat("é", 200)} {
		for _, f := range []api.Field{typed(1, api.TyString), in(typed(1, api.TyString)), many(typed(1, api.TyString))} {
			fails(t, "not UTF-8", one(f), "M", text(1, y), api.ErrBad)
			fails(t, "not UTF-8", one(f), "M", bits("0a 01 61")+text(1, y)+bits("0a 01 61"), api.ErrBad)
			fails(t, "cut in two", one(f), "M", text(1, "\xc3")+text(1, "\xa9"), api.ErrBad)
		}
		gets(t, one(typed(1, api.TyBytes)), "M", text(1, y), of(slot(1, s(y))))
		gets(t, one(in(typed(1, api.TyBytes))), "M", text(1, "a")+text(1, y), of(slot(1, s(y))))
		gets(t, one(many(typed(1, api.TyBytes))), "M", text(1, "a")+text(1, y), of(slot(1, s("a"), s(y))))
		gets(t, one(), "M", text(1, y), rest(api.Raw{Num: 1, Wire: api.WireBytes, S: y}))
		fails(t, "not UTF-8 within", good(), "Order", text(4, text(12, y)), api.ErrBad)
	}
	for _, y := range []string{"a", "é", "\x00", "\u2028", "\ufffd", "\uffff", "\U0010ffff", "\x7f", strings.Repeat("é", 200)} {
		for _, ty := range []int{api.TyString, api.TyBytes} {
			gets(t, one(typed(1, ty)), "M", text(1, y), of(slot(1, s(y))))
			gets(t, one(many(typed(1, ty))), "M", text(1, y)+text(1, "")+text(1, y), of(slot(1, s(y), s(""), s(y))))
		}
	}
}

// P22.2: a field that is Hidden is taken away by 0, and by the empty text; those that are not have them.
func TestHidden(t *testing.T) {
	for ty := api.TyInt32; ty <= api.TyEnum; ty++ {
		x := samples(ty)[0]
		right, zero := bits(ahead(ty)+x.wire), bits(ahead(ty)+"00")
		if ahead(ty) == "0d" {
			zero = bits("0d 00 00 00 00")
		}
		if ahead(ty) == "09" {
			zero = bits("09 00 00 00 00 00 00 00 00")
		}
		other := bits("10 01 48 01")
		gets(t, one(typed(1, ty)), "M", zero, api.Tree{})
		gets(t, one(typed(1, ty)), "M", right+zero, api.Tree{})
		gets(t, one(typed(1, ty)), "M", zero+right, of(slot(1, x.v)))
		gets(t, one(typed(1, ty)), "M", right+zero+right, of(slot(1, x.v)))
		gets(t, one(typed(1, ty), typed(2, api.TyBool), typed(3, api.TyBool)), "M", bits("18 01")+right+other+zero, api.Tree{Slots: []api.Slot{slot(2, n(1)), slot(3, n(1))}, Rest: []api.Raw{{Num: 9, N: 1}}})
		gets(t, one(in(typed(1, ty))), "M", right+zero, of(slot(1, api.Val{})))
		gets(t, one(many(typed(1, ty))), "M", right+zero, of(slot(1, x.v, api.Val{})))
		gets(t, one(many(typed(1, ty))), "M", zero, of(slot(1, api.Val{})))
	}
	gets(t, one(typed(1, api.TyMessage)), "M", bits("0a 00"), of(slot(1, m(api.Tree{}))))
	gets(t, one(typed(1, api.TyMessage)), "M", bits("0a 02 08 05 0a 02 08 00"), of(slot(1, m(api.Tree{}))))
	// What is left of a number of more bits may be 0.
	gets(t, one(typed(1, api.TyUint32)), "M", bits("08 05 08 80 80 80 80 10"), api.Tree{})
	gets(t, one(typed(1, api.TyBool)), "M", bits("08 01 08 80 80 80 80 10"), of(slot(1, n(1))))
}

// nest is so many trees of Ring in one another, each the value of the field of that number of the one around it.
func nest(num, deep int) api.Tree {
	return around(num, deep-1, api.Tree{})
}

// around is a tree in so many others.
func around(num, times int, t api.Tree) api.Tree {
	for range times {
		t = of(slot(num, m(t)))
	}
	return t
}

// wrapped is the bytes as a field 1 of one message in another, so many times.
func wrapped(times int, b string) string {
	for range times {
		b = text(1, b)
	}
	return b
}

// P22.2: sixteen messages in one another, and more.
func TestDeep(t *testing.T) {
	for deep := 1; deep < 40; deep++ {
		inner := bits("12 01 61 48 01")
		leaf := api.Tree{Slots: []api.Slot{slot(2, s("a"))}, Rest: []api.Raw{{Num: 9, N: 1}}}
		list := bits("1a 00") + text(3, wrapped(deep-1, inner)) + bits("1a 00")
		if deep <= api.MaxDepth {
			gets(t, good(), "Ring", wrapped(deep-1, ""), nest(1, deep))
			gets(t, good(), "Ring", wrapped(deep-1, inner), around(1, deep-1, leaf))
		} else {
			fails(t, "too deep", good(), "Ring", wrapped(deep-1, ""), api.ErrLong)
			fails(t, "too deep", good(), "Ring", wrapped(deep-1, inner), api.ErrLong)
			fails(t, "too deep", good(), "Ring", bits("12 01 61")+wrapped(deep-1, inner)+bits("12 01 61"), api.ErrLong)
		}
		if deep < api.MaxDepth {
			gets(t, good(), "Ring", list, of(slot(3, m(api.Tree{}), m(around(1, deep-1, leaf)), m(api.Tree{}))))
		} else {
			fails(t, "too deep", good(), "Ring", list, api.ErrLong)
		}
	}
	// Messages beside one another, and ones that come twice, are no deeper; what looks like messages in Rest, or in a text, is none.
	x, b := nest(1, api.MaxDepth), wrapped(api.MaxDepth-1, "")
	gets(t, good(), "Ring", b+b+b, x)
	gets(t, good(), "Ring", strings.Repeat("\x1a\x00", 40), of(slot(3, slices.Repeat([]api.Val{m(api.Tree{})}, 40)...)))
	gets(t, good(), "Ring", strings.Repeat(text(3, b[2:]), 3), of(slot(3, m(nest(1, 15)), m(nest(1, 15)), m(nest(1, 15)))))
	deep := wrapped(30, "")
	gets(t, good(), "Ring", wrapped(15, text(7, deep)), around(1, 15, rest(api.Raw{Num: 7, Wire: api.WireBytes, S: deep})))
	gets(t, good(), "Ring", wrapped(15, text(2, deep)), around(1, 15, of(slot(2, s(deep)))))
	gets(t, good(), "Ring", wrapped(15, text(4, "\x01")), around(1, 15, of(slot(4, n(1)))))
	// It is the message within that is too deep, of whatever kind its field is.
	fails(t, "too deep", good(), "Ring", wrapped(15, text(3, "")), api.ErrLong)
	fails(t, "too deep at last", good(), "Ring", b+wrapped(16, ""), api.ErrLong)
}

// P22.2: just as many bytes as may be, of all kinds, and one more.
func TestMaxBytes(t *testing.T) {
	const top = api.MaxBytes
	a := strings.Repeat("a", top)
	flags := slices.Repeat([]api.Val{n(1)}, top)
	for _, x := range []struct {
		b    string
		want api.Tree
	}{
		{text(2, a[4:]), of(slot(2, s(a[4:])))},
		{text(9, a[4:]), rest(api.Raw{Num: 9, Wire: api.WireBytes, S: a[4:]})},
		{text(4, strings.Repeat("\x01", top-4)), of(slot(4, flags[4:]...))},
		{text(5, strings.Repeat("\x01", top-4)), of(slot(5, flags[4:]...))},
		{strings.Repeat("\x20\x01", top/2), of(slot(4, flags[:top/2]...))},
		{strings.Repeat("\x28\x01", top/2), of(slot(5, flags[:top/2]...))},
		{strings.Repeat("\x22\x00", top/2), api.Tree{}},
		{strings.Repeat("\x48\x00", top/2), rest(slices.Repeat([]api.Raw{{Num: 9}}, top/2)...)},
		{strings.Repeat("\x1a\x00", top/2), of(slot(3, slices.Repeat([]api.Val{m(api.Tree{})}, top/2)...))},
		{strings.Repeat("\x0a\x00", top/2), of(slot(1, m(api.Tree{})))},
		{strings.Repeat("\x32\x00", top/2), of(slot(6, slices.Repeat([]api.Val{s("")}, top/2)...))},
		{strings.Repeat("\x0a\x02\x1a\x00", top/4), of(slot(1, m(of(slot(3, slices.Repeat([]api.Val{m(api.Tree{})}, top/4)...)))))},
		{strings.Repeat("\x0a\x02\x48\x00", top/4), of(slot(1, m(rest(slices.Repeat([]api.Raw{{Num: 9}}, top/4)...))))},
		{wrapped(15, text(2, a[64:])), around(1, 15, of(slot(2, s(a[64:]))))},
	} {
		if len(x.b) != top {
			t.Fatalf("%d bytes", len(x.b))
		}
		gets(t, good(), "Ring", x.b, x.want)
		fails(t, "one more", good(), "Ring", x.b+"\x00", api.ErrLong)
		fails(t, "two more", good(), "Ring", x.b+"\x48\x00", api.ErrLong)
		fails(t, "twice as many", good(), "Ring", x.b+x.b, api.ErrLong)
	}
	gets(t, good(), "Ring", text(2, a[5:]), of(slot(2, s(a[5:]))))
	fails(t, "one more", good(), "Ring", text(2, a[3:]), api.ErrLong)
	fails(t, "no fields", good(), "Ring", a[:top], api.ErrBad)
	fails(t, "no fields, and one more", good(), "Ring", a+"a", api.ErrLong)
}

// P22.2: names that no message has.
func TestNoMessage(t *testing.T) {
	order, _, _ := fullBytes()
	for _, name := range []string{"", "Color", "red", "id", "pick", "order", "Orde", "Orders", " Order", "Order ", "Order\x00", "\xff"} {
		for _, b := range []string{"", order, "\x0b", "\x08", wrapped(20, ""), strings.Repeat("a", api.MaxBytes+1)} {
			fails(t, "no message", good(), name, b, api.ErrNone)
		}
	}
	fails(t, "no schema", api.Schema{}, "", "", api.ErrNone)
	fails(t, "no schema", api.Schema{}, "M", order, api.ErrNone)
	fails(t, "no message", api.Schema{Enums: good().Enums}, "Color", "", api.ErrNone)
}

// P22.2: which error comes first where several fit: what stands first in the bytes, and what is no field ahead of what is too deep.
func TestTheFirstError(t *testing.T) {
	deep, wrong, none := wrapped(16, ""), bits("10 01"), "\x0b"
	bad := text(4, "\x80")
	for _, x := range []struct {
		what, b string
		want    api.Errno
	}{
		{"deep ahead of no field", deep + none, api.ErrLong}, {"no field ahead of deep", none + deep, api.ErrBad},
		{"deep ahead of another wire type", deep + wrong, api.ErrLong}, {"another wire type ahead of deep", wrong + deep, api.ErrBad},
		{"deep ahead of packed bytes", deep + bad, api.ErrLong}, {"packed bytes ahead of deep", bad + deep, api.ErrBad},
		{"deep ahead of a cut field", deep + "\x12\x05a", api.ErrLong}, {"deep ahead of a cut tag", deep + "\x80", api.ErrLong},
		{"within: deep ahead of no field", text(1, wrapped(15, "")+none), api.ErrLong}, {"within: no field ahead of deep", text(1, none+wrapped(15, "")), api.ErrBad},
		{"within: another wire type ahead of deep", text(3, wrong+wrapped(15, "")), api.ErrBad}, {"within: deep ahead of packed bytes", text(3, wrapped(15, "")+bad), api.ErrLong},
		{"no field within ahead of deep", text(3, none) + deep, api.ErrBad}, {"deep ahead of no field within", deep + text(3, none), api.ErrLong},
		{"too deep, and no field in it", wrapped(16, none), api.ErrLong}, {"too deep, and a cut field in it", wrapped(16, "\x12\x05a"), api.ErrLong}, {"too deep, and another wire type in it", wrapped(16, wrong), api.ErrLong},
		{"deepest, and no field in it", wrapped(15, none), api.ErrBad}, {"deepest, and another wire type in it", wrapped(15, wrong), api.ErrBad}, {"deepest, and packed bytes in it", wrapped(15, bad), api.ErrBad},
		{"deepest, and a message of another wire type in it", wrapped(15, bits("08 01")), api.ErrBad}, {"deepest, and a message that is cut in it", wrapped(15, bits("0a 01")), api.ErrBad}, {"deepest, and a message whose length is cut", wrapped(15, bits("0a 80")), api.ErrBad}, {"deepest, and a message without a length", wrapped(15, bits("0a")), api.ErrBad},
		{"deepest, and a message that goes beyond it", wrapped(14, bits("0a 02 0a 01")+"\x48\x01"), api.ErrBad},
		{"a message that is cut, and deep in it", "\x0a\x40" + wrapped(16, ""), api.ErrBad}, {"a message that goes beyond the one around it, and deep in it", text(1, "\x0a\x7f"+wrapped(15, "")) + strings.Repeat("\x48\x01", 100), api.ErrBad},
	} {
		fails(t, x.what, good(), "Ring", x.b, x.want)
		fails(t, x.what+", behind a field", good(), "Ring", bits("12 01 61")+x.b, x.want)
		more := x.b + text(2, strings.Repeat("a", api.MaxBytes))
		fails(t, x.what+", and too long", good(), "Ring", more, api.ErrLong)
		fails(t, x.what+", of no message", good(), "Rung", x.b, api.ErrNone)
		fails(t, x.what+", and too long, of no message", good(), "Rung", more, api.ErrNone)
	}
}

// number is n by seven bits, the lowest ones first, by the words of P1.1.
func number(n uint64) string {
	if n < 128 {
		return string([]byte{byte(n)})
	}
	return string([]byte{byte(n%128 + 128)}) + number(n/128)
}

// low is n's lowest bytes.
func low(n uint64, size int) string {
	b := make([]byte, size)
	for i := range b {
		b[i] = byte(n)
		n /= 256
	}
	return string(b)
}

// text is a field of that number and bytes.
func text(num int, s string) string {
	return number(uint64(num)*8+2) + number(uint64(len(s))) + s
}

// fieldBy is the first field of that number.
func fieldBy(mess *api.Message, num int) *api.Field {
	for i := range mess.Fields {
		if mess.Fields[i].Num == num {
			return &mess.Fields[i]
		}
	}
	return nil
}

// messageBy is the first message of that name.
func messageBy(s api.Schema, name string) *api.Message {
	for i := range s.Messages {
		if s.Messages[i].Name == name {
			return &s.Messages[i]
		}
	}
	return nil
}

// numberBy is the number that b begins with, and how many bytes it has, by the words of P1.2.
func numberBy(b string) (uint64, int) {
	var u uint64
	for i := 0; i < len(b) && i < 10; i++ {
		if i == 9 && b[i] > 1 {
			break
		}
		u += uint64(b[i]%128) << (7 * i)
		if b[i] < 128 {
			return u, i + 1
		}
	}
	return 0, 0
}

// lowBy is the number whose bytes those are, the lowest one first.
func lowBy(b string) uint64 {
	var u uint64
	for i := len(b) - 1; i >= 0; i-- {
		u = u*256 + uint64(b[i])
	}
	return u
}

// bareBy is what b begins with, as of that wire type, and how many bytes it has: 0, if it is not there, by the words of P7.2.
func bareBy(wire int, b string) (u uint64, s string, size int) {
	switch wire {
	case 0:
		u, size = numberBy(b)
	case 1:
		if len(b) >= 8 {
			return lowBy(b[:8]), "", 8
		}
	case 5:
		if len(b) >= 4 {
			return lowBy(b[:4]), "", 4
		}
	case 2:
		long, at := numberBy(b)
		if at > 0 && long <= uint64(len(b)-at) {
			return 0, b[at:][:long], at + int(long)
		}
	}
	return u, "", size
}

// firstBy is the field that b begins with, and how many bytes it has: 0, if what stands there is none.
func firstBy(b string) (api.Raw, int) {
	head, at := numberBy(b)
	if at == 0 || head/8 == 0 || head/8 > 1<<29-1 {
		return api.Raw{}, 0
	}
	u, s, size := bareBy(int(head%8), b[at:])
	if size == 0 {
		return api.Raw{}, 0
	}
	return api.Raw{Num: int(head / 8), Wire: int(head % 8), N: u, S: s}, at + size
}

// wireBy is the wire type of one value of the type, by the words of P11.1.
func wireBy(ty int) int {
	switch ty {
	case 8, 10:
		return 5
	case 9, 11:
		return 1
	case 12, 13, 15:
		return 2
	}
	return 0
}

// fromBy is the value of a number on the wire, by the words of P12.1.
func fromBy(ty int, u uint64) uint64 {
	zag := func(u uint64) uint64 {
		if u%2 == 1 {
			return -(u / 2) - 1
		}
		return u / 2
	}
	switch ty {
	case 1, 10, 14:
		if u %= 1 << 32; u >= 1<<31 {
			return u - 1<<32
		}
	case 3, 8:
		return u % (1 << 32)
	case 5:
		return zag(u % (1 << 32))
	case 6:
		return zag(u)
	case 7:
		if u != 0 {
			return 1
		}
	}
	return u
}

// numsBy is what P22.1 says that Unpack tells.
func numsBy(ty int, b string) (l []uint64, ok bool) {
	if !isNumber(ty) {
		return nil, false
	}
	for len(b) > 0 {
		u, _, size := bareBy(wireBy(ty), b)
		if size == 0 {
			return nil, false
		}
		l, b = append(l, fromBy(ty, u)), b[size:]
	}
	return l, true
}

// faultBy is what ends the reading of a message that lies so deep, by the words of P22.2.
func faultBy(s api.Schema, name, b string, deep int) api.Errno {
	for len(b) > 0 {
		x, size := firstBy(b)
		if size == 0 {
			return api.ErrBad
		}
		b = b[size:]
		f := fieldBy(messageBy(s, name), x.Num)
		if f == nil {
			continue
		}
		packed := f.Rep && isNumber(f.Type) && x.Wire == 2
		if x.Wire != wireBy(f.Type) && !packed || f.Type == 12 && !utf8.ValidString(x.S) {
			return api.ErrBad
		}
		if _, ok := numsBy(f.Type, x.S); packed && !ok {
			return api.ErrBad
		}
		if f.Type != 15 {
			continue
		}
		if deep == 16 {
			return api.ErrLong
		}
		if e := faultBy(s, f.Ref, x.S, deep+1); e != api.OK {
			return e
		}
	}
	return api.OK
}

// valsBy is the values of a field that is no message's, or is Rep.
func valsBy(s api.Schema, f api.Field, x api.Raw) (l []api.Val) {
	switch {
	case f.Type == 15:
		return []api.Val{m(valueBy(s, f.Ref, x.S))}
	case f.Type == 12 || f.Type == 13:
		return []api.Val{{S: x.S}}
	case x.Wire != 2:
		return []api.Val{n(fromBy(f.Type, x.N))}
	}
	nums, _ := numsBy(f.Type, x.S)
	for _, u := range nums {
		l = append(l, n(u))
	}
	return l
}

// valueBy is the value that the bytes are, in which there is no fault, by the words of P22.2: a message that comes twice is read once, of both behind one another.
func valueBy(s api.Schema, name, b string) (t api.Tree) {
	mess := messageBy(s, name)
	vals, within := map[int][]api.Val{}, map[int]string{}
	for len(b) > 0 {
		x, size := firstBy(b)
		b = b[size:]
		f := fieldBy(mess, x.Num)
		if f == nil {
			t.Rest = append(t.Rest, x)
			continue
		}
		for _, g := range mess.Fields {
			if f.One != "" && g.One == f.One && g.Num != f.Num {
				delete(vals, g.Num)
				delete(within, g.Num)
			}
		}
		switch {
		case f.Rep:
			vals[f.Num] = append(vals[f.Num], valsBy(s, *f, x)...)
		case f.Type == 15:
			within[f.Num] += x.S
		default:
			vals[f.Num] = valsBy(s, *f, x)
			if f.One == "" && isZero(vals[f.Num][0]) {
				delete(vals, f.Num)
			}
		}
	}
	for num, text := range within {
		vals[num] = []api.Val{m(valueBy(s, fieldBy(mess, num).Ref, text))}
	}
	for _, f := range mess.Fields {
		if len(vals[f.Num]) > 0 {
			t.Slots = append(t.Slots, slot(f.Num, vals[f.Num]...))
		}
	}
	return t
}

// agrees asks for what the words say of the bytes, and that what is got is a value, and is got again from what it is put as (P22.3). It tells what was answered.
func agrees(t *testing.T, x api.Schema, name, b string) api.Errno {
	t.Helper()
	want := faultBy(x, name, b, 1)
	if want != api.OK {
		fails(t, "by the words", x, name, b, want)
		return want
	}
	value := valueBy(x, name, b)
	gets(t, x, name, b, value)
	put, e := encode.Put(x, name, value)
	if e == api.ErrLong && len(b) > api.MaxBytes/2 {
		return api.OK // what is read may take more bytes as it is put
	}
	if e != api.OK {
		t.Fatal(short(fmt.Sprintf("Get of %s and % x: %+v, which is not put: %v", name, b, value, e)))
	}
	gets(t, x, name, string(put), value)
	return api.OK
}

// pick is one of those.
func pick[T any](r *rand.Rand, l ...T) T {
	return l[r.Intn(len(l))]
}

// chance is a schema by chance that may be.
func chance(r *rand.Rand) api.Schema {
	names := []string{"A", "B", "C"}
	x := api.Schema{Enums: []api.Enum{{Name: "E", Values: []api.Value{{Name: "x"}}}}}
	for _, name := range names {
		mess := api.Message{Name: name}
		at := 0
		for range r.Intn(10) {
			at += 1 + r.Intn(4)*r.Intn(4)
			f := api.Field{Name: "f" + strconv.Itoa(at), Num: at, Type: 1 + r.Intn(15), Rep: r.Intn(2) == 0}
			if r.Intn(4) == 0 {
				f.Type = api.TyMessage
			}
			switch f.Type {
			case api.TyEnum:
				f.Ref = "E"
			case api.TyMessage:
				f.Ref = pick(r, names...)
			}
			f.Loose = f.Rep && (f.Type < 12 || f.Type == 14) && r.Intn(2) == 0
			if !f.Rep && r.Intn(2) == 0 {
				f.One = pick(r, "o", "p")
			}
			mess.Fields = append(mess.Fields, f)
		}
		x.Messages = append(x.Messages, mess)
	}
	return x
}

// long is the number by more bytes than it needs, now and then.
func long(r *rand.Rand, u uint64) string {
	b := []byte(number(u))
	for r.Intn(4) == 0 && len(b) < 10 {
		b[len(b)-1] += 128
		b = append(b, 0)
	}
	return string(b)
}

// someBare is what may stand behind a tag of that wire type: often 0, or empty.
func someBare(r *rand.Rand, wire int) string {
	u := r.Uint64() >> r.Intn(64)
	if r.Intn(3) == 0 {
		u = 0
	}
	switch wire {
	case 0:
		return long(r, u)
	case 1:
		return low(u, 8)
	case 5:
		return low(u, 4)
	}
	s := pick(r, "", "", "a", "é", "\x08\x01", "\x12\x00", strings.Repeat("a", r.Intn(200)))
	if r.Intn(30) == 0 {
		s = pick(r, "\xff", "\x80", "\x0b")
	}
	return long(r, uint64(len(s))) + s
}

// someField is a field of that message by chance: mostly one that it knows, as it may be.
func someField(r *rand.Rand, x api.Schema, mess *api.Message, deep int) string {
	if len(mess.Fields) == 0 || r.Intn(8) == 0 {
		wire := pick(r, 0, 1, 2, 5)
		return long(r, uint64((1+r.Intn(60))*8+wire)) + someBare(r, wire)
	}
	f := pick(r, mess.Fields...)
	wire := wireBy(f.Type)
	if r.Intn(60) == 0 {
		wire = pick(r, 0, 1, 2, 3, 5)
		return long(r, uint64(f.Num*8+wire)) + someBare(r, wire)
	}
	if f.Rep && isNumber(f.Type) && r.Intn(2) == 0 {
		var list string
		for range r.Intn(4) {
			list += someBare(r, wire)
		}
		return long(r, uint64(f.Num*8+2)) + long(r, uint64(len(list))) + list
	}
	if f.Type == 15 {
		inner := someBytes(r, x, f.Ref, deep-1)
		return long(r, uint64(f.Num*8+2)) + long(r, uint64(len(inner))) + inner
	}
	return long(r, uint64(f.Num*8+wire)) + someBare(r, wire)
}

// someBytes is fields of that message, mostly such as may be.
func someBytes(r *rand.Rand, x api.Schema, name string, deep int) string {
	var b strings.Builder
	for range r.Intn(7) {
		if deep > 0 || r.Intn(3) == 0 {
			b.WriteString(someField(r, x, messageBy(x, name), deep))
		}
	}
	return b.String()
}

// spoilt is the bytes with one changed, left out, or laid into them.
func spoilt(r *rand.Rand, s string) string {
	b := []byte(s)
	at := r.Intn(len(b) + 1)
	switch {
	case r.Intn(3) == 0:
		return string(b[:at])
	case r.Intn(2) == 0 || at == len(b):
		return string(slices.Insert(b, at, byte(r.Intn(256))))
	case r.Intn(2) == 0:
		return string(slices.Delete(b, at, at+1))
	}
	b[at] = byte(r.Intn(256))
	return string(b)
}

// P22.1, P22.2, P22.3: bytes by chance, of schemas by chance, as the words have them.
func TestByTheWords(t *testing.T) {
	r := rand.New(rand.NewSource(22))
	seen := map[api.Errno]int{}
	for range 30000 {
		x, name := good(), pick(r, "Order", "Item", "Box", "Ring")
		if r.Intn(3) > 0 {
			x, name = chance(r), pick(r, "A", "B", "C")
		}
		if e := schema.Check(x); e != api.OK {
			t.Fatal(e, x)
		}
		b := someBytes(r, x, name, 1+r.Intn(5))
		if len(b) > api.MaxBytes-1 {
			continue
		}
		if r.Intn(6) == 0 {
			b = spoilt(r, b)
		}
		seen[agrees(t, x, name, b)]++
	}
	if seen[api.OK] < 10000 || seen[api.ErrBad] < 3000 {
		t.Errorf("too few of a kind: %v", seen)
	}
}

// P22.2, P22.3: deep messages by chance, in which there may be faults, ahead of what is too deep and behind it.
func TestDeepByTheWords(t *testing.T) {
	r := rand.New(rand.NewSource(222))
	seen := map[api.Errno]int{}
	for range 30000 {
		b := ""
		for range 8 + r.Intn(10) {
			b = pick(r, "", "", "", "", "\x12\x01a", "\x0a\x00", "\x20\x00", "\x48\x01", someField(r, good(), messageBy(good(), "Ring"), 1)) + text(pick(r, 1, 1, 1, 3), b)
			b += pick(r, "", "", "", "", "", "\x12\x01b", "\x0a\x00", "\x22\x01\x01")
			if r.Intn(60) == 0 {
				b += pick(r, "\x0b", "\x22\x01\x80", "\x08\x01", "\x12\x05", "\x80")
			}
		}
		if r.Intn(6) == 0 {
			b = spoilt(r, b)
		}
		seen[agrees(t, good(), "Ring", b)]++
	}
	if seen[api.OK] < 3000 || seen[api.ErrBad] < 3000 || seen[api.ErrLong] < 3000 {
		t.Errorf("too few of a kind: %v", seen)
	}
}

// P22.2, P22.3: all short texts of a few bytes, of a message with fields of many kinds, as the words have them.
func TestShortBytes(t *testing.T) {
	x := one(many(typed(1, api.TyInt32)), in(typed(2, api.TyMessage)), typed(3, api.TyString), in(typed(4, api.TyBool)))
	letters := "\x00\x01\x02\x08\x0a\x0b\x10\x12\x18\x1a\x20\x28\x80\xff"
	seen := map[api.Errno]int{}
	var walk func(b string, left int)
	walk = func(b string, left int) {
		seen[agrees(t, x, "M", b)]++
		if left == 0 {
			return
		}
		for i := range len(letters) {
			walk(b+letters[i:i+1], left-1)
		}
	}
	walk("", 5)
	if seen[api.OK] < 5000 {
		t.Errorf("%v", seen)
	}
}

// P22.1: bytes by chance, of all types.
func TestUnpackByTheWords(t *testing.T) {
	r := rand.New(rand.NewSource(221))
	for range 50000 {
		f := api.Field{Type: r.Intn(17), Rep: r.Intn(2) == 0}
		var b string
		for range r.Intn(6) {
			b += someBare(r, wireBy(f.Type))
		}
		if r.Intn(4) == 0 {
			b = spoilt(r, b)
		}
		if want, ok := numsBy(f.Type, b); ok {
			unpacks(t, f, b, want...)
			if back := encode.Pack(f, want); !slices.Equal(want, must(numsBy(f.Type, back))) {
				t.Fatalf("Unpack of %+v and % x: %d: put as % x", f, b, want, back)
			}
		} else {
			refuses(t, f, b)
		}
	}
}

// must is the list, if it is all right.
func must(l []uint64, ok bool) []uint64 {
	if !ok {
		panic("no numbers")
	}
	return l
}

// drawVal is a value of the field, which is not 0, nor empty, if it would be hidden.
func drawVal(r *rand.Rand, s api.Schema, f api.Field, deep int) api.Val {
	switch f.Type {
	case api.TyMessage:
		return m(draw(r, s, f.Ref, deep-1))
	case api.TyString, api.TyBytes:
		return api.Val{S: strings.Repeat(pick(r, "a", "é"), 1+r.Intn(3)*r.Intn(70))}
	}
	u := num.From(f.Type, r.Uint64()>>r.Intn(64))
	if u == 0 {
		u = 1
	}
	return n(u)
}

// draw is a value of the message of that name, up to so many messages in one another.
func draw(r *rand.Rand, s api.Schema, name string, deep int) api.Tree {
	var t api.Tree
	mess := messageBy(s, name)
	ones := map[string]int{"": -1000}
	for _, f := range mess.Fields {
		if r.Intn(2) == 0 || deep == 1 && f.Type == api.TyMessage || ones[f.One] > 0 {
			continue
		}
		ones[f.One]++
		x := slot(f.Num, drawVal(r, s, f, deep))
		for f.Rep && r.Intn(3) > 0 {
			v := drawVal(r, s, f, deep)
			if f.Type != api.TyMessage && r.Intn(3) == 0 {
				v = api.Val{}
			}
			x.Vals = append(x.Vals, v)
		}
		if f.One != "" && f.Type != api.TyMessage && r.Intn(2) == 0 {
			x.Vals[0] = api.Val{}
		}
		t.Slots = append(t.Slots, x)
	}
	for range r.Intn(3) {
		x := api.Raw{Num: 1 + r.Intn(80), Wire: pick(r, 0, 1, 2, 5), N: uint64(r.Uint32())}
		if x.Wire == api.WireBytes {
			x.N, x.S = 0, pick(r, "", "a", "\xff", "\x08\x01")
		}
		if fieldBy(mess, x.Num) == nil {
			t.Rest = append(t.Rest, x)
		}
	}
	return t
}

// back asks that what the value is put as is got as it (P22.3).
func back(t *testing.T, x api.Schema, name string, y api.Tree) {
	t.Helper()
	b, e := encode.Put(x, name, y)
	if e != api.OK {
		t.Fatal(short(fmt.Sprintf("Put of %+v: %v", y, e)))
	}
	gets(t, x, name, string(b), y)
}

// P22.3: what Put wrote is got: values of each type, alone and many.
func TestThereAndBack(t *testing.T) {
	back(t, good(), "Order", full())
	back(t, good(), "Order", api.Tree{})
	back(t, good(), "Ring", nest(1, api.MaxDepth))
	back(t, good(), "Ring", of(slot(2, s(strings.Repeat("a", api.MaxBytes-4)))))
	back(t, good(), "Ring", of(slot(4, slices.Repeat([]api.Val{n(0)}, api.MaxBytes-4)...)))
	for ty := api.TyInt32; ty <= api.TyMessage; ty++ {
		var all []api.Val
		for _, x := range samples(ty) {
			all = append(all, x.v)
			back(t, one(in(typed(1, ty))), "M", of(slot(1, x.v)))
			back(t, one(many(typed(1, ty))), "M", of(slot(1, x.v)))
			back(t, one(many(typed(1, ty))), "M", of(slot(1, all...)))
			if isNumber(ty) {
				back(t, one(loose(typed(1, ty))), "M", of(slot(1, all...)))
			}
			if ty == api.TyMessage || !isZero(x.v) {
				back(t, one(typed(1, ty)), "M", of(slot(1, x.v)))
			}
		}
	}
}

// P22.3: what Put wrote is got: values by chance, of schemas by chance.
func TestThereAndBackByChance(t *testing.T) {
	r := rand.New(rand.NewSource(223))
	right := 0
	for range 20000 {
		x, name := good(), pick(r, "Order", "Item", "Box", "Ring")
		if r.Intn(3) > 0 {
			x, name = chance(r), pick(r, "A", "B", "C")
		}
		y := draw(r, x, name, 1+r.Intn(5))
		if _, e := encode.Put(x, name, y); e == api.ErrLong {
			continue
		}
		right++
		back(t, x, name, y)
	}
	if right < 10000 {
		t.Errorf("%d values were put", right)
	}
}

// P22.1, P22.3: what Pack wrote is unpacked.
func TestPackThereAndBack(t *testing.T) {
	r := rand.New(rand.NewSource(224))
	for range 20000 {
		f := api.Field{Type: pick(r, 1, 2, 3, 4, 5, 6, 7, 8, 9, 10, 11, 14)}
		var l []uint64
		for range r.Intn(9) {
			l = append(l, num.From(f.Type, r.Uint64()>>r.Intn(64)))
		}
		unpacks(t, f, encode.Pack(f, l), l...)
	}
}

// P22.2: what is read may take more bytes as it is put than a value may have; it is got nevertheless.
func TestValuesThatArePutLonger(t *testing.T) {
	x := of(slot(5, slices.Repeat([]api.Val{n(1)}, api.MaxBytes-4)...))
	gets(t, good(), "Ring", text(5, strings.Repeat("\x01", api.MaxBytes-4)), x)
	if _, e := encode.Put(good(), "Ring", x); e != api.ErrLong {
		t.Errorf("%v", e)
	}
}

// spoil changes all that the tree's lists hold, also behind their ends.
func spoil(t api.Tree) {
	for _, x := range t.Slots[:cap(t.Slots)] {
		for _, v := range x.Vals[:cap(x.Vals)] {
			for _, inner := range v.M[:cap(v.M)] {
				spoil(inner)
			}
			for i := range v.M[:cap(v.M)] {
				v.M[:cap(v.M)][i] = rest(api.Raw{Num: 77})
			}
		}
		for i := range x.Vals[:cap(x.Vals)] {
			x.Vals[:cap(x.Vals)][i] = s("spoilt")
		}
	}
	for i := range t.Slots[:cap(t.Slots)] {
		t.Slots[:cap(t.Slots)][i] = slot(77)
	}
	for i := range t.Rest[:cap(t.Rest)] {
		t.Rest[:cap(t.Rest)][i] = api.Raw{Num: 77}
	}
}

// lists is each list of the tree: what it hands over lays one more behind that list, in its room, if it has some.
func lists(t api.Tree, lay func(func())) {
	lay(func() { _ = append(t.Slots, slot(77)) })
	lay(func() { _ = append(t.Rest, api.Raw{Num: 77}) })
	for _, x := range t.Slots {
		lay(func() { _ = append(x.Vals, s("spoilt")) })
		for _, v := range x.Vals {
			lay(func() { _ = append(v.M, rest(api.Raw{Num: 77})) })
			for _, inner := range v.M {
				lists(inner, lay)
			}
		}
	}
}

// Rule 3: nothing that is handed in is changed, and nothing of it, nor of an earlier answer, is in an answer; no two lists of an answer share their room.
func TestNothingIsSharedOrChanged(t *testing.T) {
	order, _, _ := fullBytes()
	// Messages that come twice, too, and oneofs whose fields were taken away.
	order = bits("12 01 61 82 e2 09 01 62") + order + text(8, bits("0a 02 01 02 58 01")) + bits("22 02 58 01 52 01 62")
	want := valueBy(good(), "Order", order)
	x, b := good(), []byte(order)
	room := append(b, "behind"...)
	was := fmt.Sprintf("%#v", x)
	got, e := decode.Get(x, "Order", b)
	other, _ := decode.Get(x, "Order", b)
	if e != api.OK || string(b) != order || !bytes.HasSuffix(room, []byte("behind")) || fmt.Sprintf("%#v", x) != was {
		t.Fatalf("changed, or %v", e)
	}
	spoil(other)
	clear(b)
	if !tree.Same(got, want) {
		t.Errorf("changed: %+v", got)
	}
	lists(got, func(lay func()) {
		lay()
		if !tree.Same(got, want) {
			t.Errorf("changed: %+v", got)
		}
	})
	// What ends the reading changes nothing either.
	for _, y := range []string{order + "\x0b", text(4, wrapped(20, "")), order + "\x80"} {
		b := []byte(y)
		decode.Get(x, "Order", b)
		if string(b) != y || fmt.Sprintf("%#v", x) != was {
			t.Errorf("changed: % x", b)
		}
	}
	one, _ := decode.Unpack(typed(1, api.TyInt32), "\x01\x02\x03")
	two, _ := decode.Unpack(typed(1, api.TyInt32), "\x01\x02\x03")
	clear(two[:cap(two)])
	if !slices.Equal(one, []uint64{1, 2, 3}) {
		t.Errorf("changed: %d", one)
	}
}

// Rule 4: what is answered hangs on what is handed in alone: not on what was asked ahead of it, nor on what is asked meanwhile.
func TestNothingIsKept(t *testing.T) {
	order, _, _ := fullBytes()
	x, want := good(), full()
	var all sync.WaitGroup
	for range 8 {
		all.Go(func() {
			for range 200 {
				got, e := decode.Get(x, "Order", []byte(order))
				_, e1 := decode.Get(x, "Ring", []byte(wrapped(16, "")))
				_, e2 := decode.Get(x, "Order", []byte(order+"\x0b"))
				l, ok := decode.Unpack(typed(1, api.TySint32), "\x01\x02")
				if e != api.OK || !tree.Same(got, want) || e1 != api.ErrLong || e2 != api.ErrBad || !ok || !slices.Equal(l, []uint64{minus, 1}) {
					t.Error("not the same once more")
				}
			}
		})
	}
	all.Wait()
	// A schema that is changed between two calls is read anew.
	b := bits("08 05 08 02")
	gets(t, x, "Order", b, of(slot(1, n(2))))
	x.Messages[0].Fields[0].Type = api.TySint64
	gets(t, x, "Order", b, of(slot(1, n(1))))
	x.Messages[0].Fields[0].Rep = true
	gets(t, x, "Order", b, of(slot(1, n(math.MaxUint64-2), n(1))))
	x.Messages[0].Fields[0].Type = api.TyFixed32
	fails(t, "another wire type", x, "Order", b, api.ErrBad)
	x.Messages[0].Fields = x.Messages[0].Fields[1:]
	gets(t, x, "Order", b, rest(api.Raw{Num: 1, N: 5}, api.Raw{Num: 1, N: 2}))
	x.Messages[0].Name = "Other"
	fails(t, "no message", x, "Order", b, api.ErrNone)
}

// P22.2: of schemas that may not be all calls end, too.
func TestSchemasThatMayNotBe(t *testing.T) {
	order, _, _ := fullBytes()
	texts := []string{"", order, bits("08 05"), bits("0a 00"), bits("0a 02 08 05 0a 00"), bits("0a 01 05"), bits("0d 01 00 00 00"), bits("09 01 00 00 00 00 00 00 00"), "\x0b", "\x80"}
	for _, f := range []api.Field{typed(0, api.TyMessage), typed(-1, api.TyInt32), typed(api.MaxNum+1, api.TyString), many(typed(math.MinInt, api.TyBool)), loose(typed(math.MaxInt, api.TyFixed32)), in(many(typed(1, api.TyMessage))), in(many(typed(1, api.TyBool))), {Num: 1, Type: api.TyMessage, Ref: "Nowhere"}, {Num: 1}, {Num: 1, Rep: true}, {Num: 1, Type: 16}, {Num: 1, Type: math.MinInt, Rep: true, One: "o"}, {Num: 1, Type: math.MaxInt, One: "o"}} {
		for _, b := range texts {
			decode.Get(one(f, f), "M", []byte(b))
			decode.Get(one(in(typed(2, api.TyInt32)), f, in(typed(1, api.TyBytes))), "M", []byte(b))
		}
	}
	// A message that is not there is told as one.
	fails(t, "no message within", one(api.Field{Num: 1, Type: api.TyMessage, Ref: "Nowhere"}), "M", bits("0a 00"), api.ErrNone)
	twice := api.Schema{Messages: append(one(typed(1, api.TyInt32)).Messages, one(typed(1, api.TyFixed32)).Messages...)}
	gets(t, twice, "M", bits("08 01"), of(slot(1, n(1))))
}

// Limits: very many bytes: all calls end, in time.
func TestMuch(t *testing.T) {
	const much = 1 << 22
	fails(t, "very many bytes", good(), "Ring", strings.Repeat("\x0a\x00", much), api.ErrLong)
	fails(t, "very many bytes, of no message", good(), "Rung", strings.Repeat("\x0a\x00", much), api.ErrNone)
	unpacks(t, typed(1, api.TyBool), strings.Repeat("\x02", much), slices.Repeat([]uint64{1}, much)...)
	unpacks(t, typed(1, api.TyFixed64), strings.Repeat("\x01\x00\x00\x00\x00\x00\x00\x00", much/8), slices.Repeat([]uint64{1}, much/8)...)
	refuses(t, typed(1, api.TyBool), strings.Repeat("\x02", much)+"\x80")
	refuses(t, typed(1, api.TyFixed64), strings.Repeat("\x01", much+1))
	refuses(t, typed(1, api.TyString), strings.Repeat("\x01", much))
	// Fifteen messages in one another, each time they come laid into those that are there.
	leaf := wrapped(14, bits("22 01 01 1a 00 48 01"))
	times := api.MaxBytes / len(leaf)
	want := around(1, 14, api.Tree{Slots: []api.Slot{slot(3, slices.Repeat([]api.Val{m(api.Tree{})}, times)...), slot(4, slices.Repeat([]api.Val{n(1)}, times)...)}, Rest: slices.Repeat([]api.Raw{{Num: 9, N: 1}}, times)})
	gets(t, good(), "Ring", strings.Repeat(leaf, times), want)
	// Oneofs whose fields take each other's place, over and over.
	x := one(in(typed(1, api.TyMessage)), in(typed(2, api.TyBytes)), in(typed(3, api.TyBool)))
	gets(t, x, "M", strings.Repeat(bits("0a 02 08 01 12 00 18 00"), api.MaxBytes/8), of(slot(3, n(0))))
}
