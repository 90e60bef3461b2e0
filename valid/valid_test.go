package valid_test

import (
	"fmt"
	"math"
	"math/rand"
	"slices"
	"strconv"
	"strings"
	"sync"
	"testing"

	"ecdysis/api"
	"ecdysis/schema"
	"ecdysis/tree"
	"ecdysis/valid"
)

// good is a schema that may be: fields of all kinds, two oneofs in one message whose fields do not stand side by side, oneofs of the same names in another one, messages in a chain, in a ring, and of themselves, and one without a field. It is made anew each time.
func good() api.Schema {
	return api.Schema{
		Enums: []api.Enum{{Name: "Color", Values: []api.Value{{Name: "red"}, {Name: "blue", Num: 3}}}},
		Messages: []api.Message{
			{Name: "Order", Fields: []api.Field{
				{Name: "id", Num: 1, Type: api.TyUint64},
				{Name: "text", Num: 2, Type: api.TyString, One: "pick"},
				{Name: "item", Num: 4, Type: api.TyMessage, Ref: "Item", Rep: true},
				{Name: "amount", Num: 6, Type: api.TySint32, One: "pick"},
				{Name: "color", Num: 7, Type: api.TyEnum, Ref: "Color"},
				{Name: "spare", Num: 8, Type: api.TyMessage, Ref: "Item", One: "other"},
				{Name: "sole", Num: 9, Type: api.TyMessage, Ref: "Note"},
				{Name: "words", Num: 10, Type: api.TyString, Rep: true},
				{Name: "blob", Num: 20000, Type: api.TyBytes, One: "pick"},
				{Name: "last", Num: api.MaxNum, Type: api.TyInt32, Rep: true, Loose: true},
			}, Barred: []int{3, 5, 19000}},
			{Name: "Box", Fields: []api.Field{
				{Name: "next", Num: 1, Type: api.TyMessage, Ref: "Item", One: "pick"},
				{Name: "none", Num: 3, Type: api.TyBool, One: "pick"},
				{Name: "fix", Num: 5, Type: api.TySfixed64},
			}},
			{Name: "Item", Fields: []api.Field{
				{Name: "size", Num: 1, Type: api.TyEnum, Ref: "Color", Rep: true},
				{Name: "note", Num: 2, Type: api.TyMessage, Ref: "Note"},
				{Name: "box", Num: 3, Type: api.TyMessage, Ref: "Box"},
				{Name: "flag", Num: 11, Type: api.TyBool},
				{Name: "name", Num: 12, Type: api.TyString},
				{Name: "raw", Num: 13, Type: api.TyBytes},
			}},
			{Name: "Note"},
			{Name: "Ring", Fields: []api.Field{{Name: "ring", Num: 1, Type: api.TyMessage, Ref: "Ring"}}},
		},
	}
}

// full is a value of Order that has all there can be: fields of all kinds, each repeated one with several values, messages four deep, oneofs with a field, also within one another, fields of Rest, also within. It is made anew each time.
func full() api.Tree {
	box := api.Tree{Slots: []api.Slot{slot(1, m(of(slot(1, n(7)), slot(11, n(1))))), slot(5, n(math.MaxUint64))}, Rest: []api.Raw{{Num: 2, Wire: api.WireBytes, S: "in a box"}, {Num: 9, Wire: api.Wire32, N: math.MaxUint32}}}
	item := api.Tree{
		Slots: []api.Slot{slot(1, n(0), n(3), n(math.MaxUint64)), slot(2, m(rest(api.Raw{Num: 1, N: 5}))), slot(3, m(box)), slot(11, n(1)), slot(12, s("é")), slot(13, s("\xff"))},
		Rest:  []api.Raw{{Num: 4, N: 1}, {Num: 4, N: 1}, {Num: 20000, Wire: api.Wire64, N: math.MaxUint64}},
	}
	return api.Tree{
		Slots: []api.Slot{slot(1, n(5)), slot(4, m(item), m(api.Tree{}), m(of(slot(3, m(of(slot(3, n(0)))))))), slot(6, n(0)), slot(7, n(77)), slot(8, m(of(slot(12, s("x"))))), slot(9, m(api.Tree{})), slot(10, s(""), s("a"), s("")), slot(api.MaxNum, n(0), n(1<<31-1))},
		Rest:  []api.Raw{{Num: 3, N: 8}, {Num: 19000, Wire: api.WireBytes, S: "barred"}, {Num: 11, Wire: api.WireBytes}, {Num: 3, Wire: api.Wire32}},
	}
}

// of is a tree of those slots.
func of(slots ...api.Slot) api.Tree {
	return api.Tree{Slots: slots}
}

// slot is a slot of those values.
func slot(num int, vals ...api.Val) api.Slot {
	return api.Slot{Num: num, Vals: vals}
}

// rest is a tree of no slots and those fields.
func rest(l ...api.Raw) api.Tree {
	return api.Tree{Rest: l}
}

// n is the value that is a number.
func n(u uint64) api.Val {
	return api.Val{N: u}
}

// s is the value that is a text.
func s(text string) api.Val {
	return api.Val{S: text}
}

// m is the value that is those trees.
func m(l ...api.Tree) api.Val {
	return api.Val{M: l}
}

// one is a schema of a message M with those fields, and of a message N with a field of each of the types uint32 and N.
func one(fields ...api.Field) api.Schema {
	return api.Schema{Messages: []api.Message{{Name: "M", Fields: fields}, {Name: "N", Fields: []api.Field{{Name: "a", Num: 1, Type: api.TyUint32}, {Name: "n", Num: 2, Type: api.TyMessage, Ref: "N"}}}}}
}

// typed is a field of that type; of TyMessage its message is N.
func typed(num, ty int) api.Field {
	f := api.Field{Name: "f" + strconv.Itoa(num), Num: num, Type: ty}
	if ty == api.TyEnum {
		f.Ref = "E"
	}
	if ty == api.TyMessage {
		f.Ref = "N"
	}
	return f
}

// short is the text, if it is not too long to be told.
func short(s string) string {
	if len(s) > 3000 {
		return s[:3000] + " .."
	}
	return s
}

// is asks that the answer is that one. The first one that is another ends the test: so many are asked for that nobody would read of all.
func is(t *testing.T, what string, got, want bool) {
	t.Helper()
	if got != want {
		t.Fatalf("%s: %v; wanted %v", short(what), got, want)
	}
}

// val asks whether v is a value of the field.
func val(t *testing.T, s api.Schema, f api.Field, v api.Val, want bool) {
	t.Helper()
	is(t, fmt.Sprintf("Val of %+v and %+v", f, v), valid.Val(s, f, v), want)
}

// may asks whether x is a value of the message of that name.
func may(t *testing.T, s api.Schema, name string, x api.Tree, want bool) {
	t.Helper()
	if got := valid.Tree(s, name, x); got != want {
		t.Fatalf("%s", short(fmt.Sprintf("Tree of %s and %+v: %v; wanted %v; the schema: %+v", name, x, got, want, s)))
	}
}

// texts is what there is in UTF-8.
var texts = []string{"", "a", "\x00", "\x7f", "é", "a\u0080", "\u07ff", "\u0800", "\ud7ff", "\ue000", "\ufffd", "\uffff", "\U00010000", "\U0010ffff", strings.Repeat("aé\U0001f600", 1000)}

// junk is what there is not in UTF-8: bytes that begin nothing, or go on with nothing; too short, too long, halves of pairs, above all runes.
var junk = []string{"\x80", "\xbf", "\xff", "\xfe", "\xc3", "a\xc3", "\xc3a", "\xe2\x82", "\xf0\x9f\x98", "\xc0\x80", "\xc1\xbf", "\xe0\x9f\xbf", "\xf0\x8f\xbf\xbf", "\xed\xa0\x80", "\xed\xbf\xbf", "\xf4\x90\x80\x80", "\xf8\x88\x80\x80\x80", "é\xff", "\xffé", strings.Repeat("é", 1000) + "\xc3"}

// span is the N that values of a number type have at its ends, and those that are next to them, and have none.
func span(ty int) (in, out []uint64) {
	const low, high = math.MaxUint64 - 1<<31 + 1, 1<<31 - 1
	beyond := []uint64{1 << 32, 1<<32 + 1, 1 << 62, 1<<63 - 1, 1 << 63, 1<<63 + 1, math.MaxUint64 - 1<<32 + 1, math.MaxUint64 - 1<<32}
	switch ty {
	case api.TyInt32, api.TySint32, api.TySfixed32, api.TyEnum:
		return []uint64{0, 1, 2, high, high - 1, math.MaxUint64, low, low + 1}, append(beyond, high+1, high+2, 1<<32-1, low-1, low-2)
	case api.TyUint32, api.TyFixed32:
		return []uint64{0, 1, 2, high, high + 1, 1<<32 - 1}, append(beyond, low, math.MaxUint64)
	case api.TyBool:
		return []uint64{0, 1}, append(beyond, 2, 3, 255, 256, high, 1<<32-1, low, math.MaxUint64)
	}
	return append(beyond, 0, 1, 2, high, high+1, 1<<32-1, low, low-1, math.MaxUint64), nil
}

// samples is values of the type, and such that are none of it. Each has N, S and M in all ways in which it can.
func samples(ty int) (in, out []api.Val) {
	empty := []api.Tree{{}}
	switch ty {
	case api.TyString, api.TyBytes:
		for _, x := range texts {
			in = append(in, s(x), api.Val{S: x, M: []api.Tree{}})
			out = append(out, api.Val{N: 1, S: x}, api.Val{N: math.MaxUint64, S: x}, api.Val{S: x, M: empty}, api.Val{N: 1, S: x, M: empty}, api.Val{S: x, M: []api.Tree{{}, {}}})
		}
		for _, x := range junk {
			if ty == api.TyBytes {
				in = append(in, s(x))
			} else {
				out = append(out, s(x))
			}
			out = append(out, api.Val{N: 1, S: x}, api.Val{S: x, M: empty})
		}
		return in, out
	case api.TyMessage:
		a, b := of(slot(1, n(1))), of(slot(2, m(of(slot(1, n(1<<32-1))))))
		in = []api.Val{m(empty...), m(a), m(b), m(rest(api.Raw{Num: 3})), {M: []api.Tree{{Slots: []api.Slot{}, Rest: []api.Raw{}}}}}
		out = []api.Val{{}, {M: []api.Tree{}}, n(1), s("a"), {N: 1, S: "a"}, m(api.Tree{}, api.Tree{}), m(a, b), m(a, b, a), {N: 1, M: empty}, {N: 1 << 63, M: []api.Tree{a}}, {S: "a", M: empty}, {S: "\x00", M: []api.Tree{a}}, {N: 1, S: "a", M: empty}}
		// Trees that are none of the message.
		return in, append(out, m(of(slot(3, n(1)))), m(of(slot(1, n(0)))), m(of(slot(1))), m(of(slot(1, s("a")))), m(of(slot(1, n(1<<32)))), m(of(slot(2, m(of(slot(1, n(0))))))), m(of(slot(2, n(1)))), m(rest(api.Raw{Num: 1})))
	}
	here, beyond := span(ty)
	for _, x := range here {
		in = append(in, n(x), api.Val{N: x, M: []api.Tree{}})
		out = append(out, api.Val{N: x, S: "a"}, api.Val{N: x, S: "\x00"}, api.Val{N: x, M: empty}, api.Val{N: x, M: []api.Tree{of(slot(1, n(1)))}}, api.Val{N: x, S: "a", M: empty})
	}
	for _, x := range beyond {
		out = append(out, n(x), api.Val{N: x, S: "a"})
	}
	return in, out
}

// forms is the field alone, in a oneof, repeated, and repeated and loose.
func forms(f api.Field) []api.Field {
	in, rep, loose := f, f, f
	in.One = "o"
	rep.Rep = true
	loose.Rep, loose.Loose = true, true
	return []api.Field{f, in, rep, loose}
}

// P20.2: the chapter's example.
func TestExample(t *testing.T) {
	x := one(api.Field{Name: "a", Num: 1, Type: api.TyInt32})
	may(t, x, "M", of(slot(1, n(5))), true)
	may(t, x, "M", of(slot(1, n(0))), false)
}

// The schema of these tests may be, and their tree has what it should.
func TestGood(t *testing.T) {
	if e := schema.Check(good()); e != api.OK {
		t.Errorf("the schema: %v", e)
	}
	if deep := tree.Deep(full()); deep != 4 {
		t.Errorf("the tree is %d deep", deep)
	}
	may(t, good(), "Order", full(), true)
}

// P20.1: the values of each type, of a field in each form.
func TestVal(t *testing.T) {
	for ty := api.TyInt32; ty <= api.TyMessage; ty++ {
		in, out := samples(ty)
		for _, f := range forms(typed(1, ty)) {
			x := one(f)
			for _, v := range in {
				val(t, x, f, v, true)
			}
			for _, v := range out {
				val(t, x, f, v, false)
			}
		}
	}
}

// P20.1: of numbers near each end of each type, those of it are its values.
func TestValOfEachNumber(t *testing.T) {
	ends := []uint64{0, 1, 2, 1 << 7, 1 << 8, 1 << 15, 1 << 16, 1 << 31, 1 << 32, 1 << 33, 1 << 63, math.MaxUint64 - 1<<31, math.MaxUint64 - 1<<32}
	for _, end := range ends {
		for off := range uint64(7) {
			u := end + off - 3
			fits := int64(u) == int64(int32(u))
			low := u == uint64(uint32(u))
			for ty, want := range map[int]bool{
				api.TyInt32: fits, api.TyInt64: true, api.TyUint32: low, api.TyUint64: true, api.TySint32: fits, api.TySint64: true, api.TyBool: u < 2,
				api.TyFixed32: low, api.TyFixed64: true, api.TySfixed32: fits, api.TySfixed64: true, api.TyEnum: fits,
				api.TyString: u == 0, api.TyBytes: u == 0, api.TyMessage: false,
			} {
				val(t, one(), typed(1, ty), n(u), want)
			}
		}
	}
}

// P20.1: what is of no type has no value.
func TestValOfNoType(t *testing.T) {
	for _, ty := range []int{0, -1, 16, 17, api.TyInt32 - api.TyMessage, 1 << 8, 1<<8 + 1, 1<<32 + 1, math.MinInt, math.MaxInt} {
		for _, f := range forms(api.Field{Name: "a", Num: 1, Type: ty, Ref: "N"}) {
			for _, v := range []api.Val{{}, n(1), s("a"), m(api.Tree{}), {N: 1, S: "a", M: []api.Tree{{}}}, n(math.MaxUint64)} {
				val(t, one(f), f, v, false)
				may(t, one(f), "M", of(slot(1, v)), false)
			}
		}
	}
}

// P20.1: nothing but the type, and of a message its name, says what is a value: what is wrong with the field, and whether the schema has it, does not matter.
func TestValOfAnyField(t *testing.T) {
	for ty := api.TyInt32; ty <= api.TyMessage; ty++ {
		in, out := samples(ty)
		ref := typed(1, ty).Ref
		for _, f := range []api.Field{{Type: ty, Ref: ref}, {Name: "1", Num: -1, Type: ty, Ref: ref}, {Name: "a", Num: 19000, Type: ty, Ref: ref, Rep: true, One: "o"}, {Num: math.MaxInt, Type: ty, Ref: ref, Loose: true, One: "\xff"}} {
			for _, v := range in {
				val(t, one(), f, v, true)
			}
			for _, v := range out {
				val(t, one(), f, v, false)
			}
		}
		if ty != api.TyMessage {
			// Whose values are no messages, they don't hang on the schema, nor on a name.
			for _, v := range in {
				val(t, api.Schema{}, api.Field{Name: "a", Num: 1, Type: ty}, v, true)
				val(t, good(), api.Field{Name: "a", Num: 1, Type: ty, Ref: "Nowhere"}, v, true)
			}
		}
	}
}

// P20.1: an enum's field has all numbers of 32 bits, also those that its enum does not name, and those of an enum that is not there.
func TestValOfEnums(t *testing.T) {
	for _, ref := range []string{"Color", "Order", "Nowhere", ""} {
		for _, u := range []uint64{0, 1, 3, 4, 1<<31 - 1, math.MaxUint64} {
			val(t, good(), api.Field{Name: "a", Num: 1, Type: api.TyEnum, Ref: ref}, n(u), true)
		}
	}
}

// P20.1: messages of which the field is, and those of which it is not.
func TestValOfMessages(t *testing.T) {
	f := func(ref string) api.Field { return api.Field{Name: "a", Num: 1, Type: api.TyMessage, Ref: ref} }
	note, box, item := rest(api.Raw{Num: 1}), of(slot(5, n(1))), of(slot(12, s("a")))
	for _, x := range []struct {
		ref  string
		t    api.Tree
		want bool
	}{
		{"Note", note, true}, {"Box", note, false}, {"Item", note, false}, {"Order", note, false}, {"Ring", note, false},
		{"Note", box, false}, {"Box", box, true}, {"Item", box, false}, {"Order", box, false}, {"Ring", box, false},
		{"Note", item, false}, {"Box", item, false}, {"Item", item, true}, {"Order", item, false}, {"Ring", item, false},
		{"Order", full(), true}, {"Item", full(), false},
		// Messages' names alone are looked for.
		{"Color", api.Tree{}, false}, {"", api.Tree{}, false}, {"Nowhere", api.Tree{}, false}, {"note", api.Tree{}, false}, {"Note ", api.Tree{}, false}, {"Not", api.Tree{}, false}, {"pick", api.Tree{}, false},
	} {
		val(t, good(), f(x.ref), m(x.t), x.want)
		may(t, good(), x.ref, x.t, x.want)
	}
	// Trees of the same message in one another, with a fault in none of them and in the innermost one.
	right, wrong := api.Tree{}, of(slot(2, m(api.Tree{})))
	for range 20 {
		val(t, good(), f("Ring"), m(right), true)
		val(t, good(), f("Ring"), m(wrong), false)
		right, wrong = of(slot(1, m(right))), of(slot(1, m(wrong)))
	}
}

// P20.2: what messages know.
func TestKnows(t *testing.T) {
	for name, nums := range map[string][]int{"Order": {1, 2, 4, 6, 7, 8, 9, 10, 20000, api.MaxNum}, "Box": {1, 3, 5}, "Item": {1, 2, 3, 11, 12, 13}, "Note": nil, "Ring": {1}, "Color": nil, "Nowhere": nil, "": nil, "order": nil, "Order ": nil, "Orde": nil} {
		for _, num := range []int{math.MinInt, -api.MaxNum, -4, -1, 0, 1, 2, 3, 4, 5, 6, 7, 8, 9, 10, 11, 12, 13, 14, 19000, 19999, 20000, 20001, api.MaxNum - 1, api.MaxNum, api.MaxNum + 1, 1<<32 + 1, math.MaxInt} {
			is(t, "Knows of "+name+" and "+strconv.Itoa(num), valid.Knows(good(), name, num), slices.Contains(nums, num))
		}
	}
	is(t, "Knows of no schema", valid.Knows(api.Schema{}, "M", 1), false)
	is(t, "Knows of no schema and no name", valid.Knows(api.Schema{}, "", 0), false)
	// Fields of each type and each form, and such as may not be, are fields.
	for _, ty := range []int{0, 1, 2, 3, 4, 5, 6, 7, 8, 9, 10, 11, 12, 13, 14, 15, 16, -1} {
		for _, f := range forms(api.Field{Num: 8, Type: ty}) {
			is(t, "Knows of a field", valid.Knows(one(f), "M", 8), true)
			is(t, "Knows of no field", valid.Knows(one(f), "M", 7), false)
		}
	}
	for _, num := range []int{0, -1, 19000, api.MaxNum + 1, math.MinInt, math.MaxInt} {
		is(t, "Knows of a number that no field may have", valid.Knows(one(api.Field{Num: num}), "M", num), true)
	}
}

// P20.2: what is a value, and what is none, field by field.
func TestTree(t *testing.T) {
	x := good()
	for _, l := range []struct {
		want  bool
		trees []api.Tree
	}{
		{true, []api.Tree{
			of(slot(1, n(1<<63))), of(slot(1, n(1)), slot(7, n(1))), of(slot(7, n(math.MaxUint64))),
			of(slot(4, m(api.Tree{}))), of(slot(4, m(api.Tree{}), m(api.Tree{}), m(api.Tree{}))), of(slot(9, m(api.Tree{}))), of(slot(9, m(rest(api.Raw{Num: 1}, api.Raw{Num: 9})))),
			of(slot(10, s("a"))), of(slot(10, s("b"), s("a"), s("b"))), of(slot(20000, s("\xff"))), of(slot(api.MaxNum, n(1))), of(slot(api.MaxNum, n(2), n(1), n(2))),
			of(slot(4, m(of(slot(3, m(of(slot(1, m(of(slot(3, m(of(slot(5, n(1))))))))))))))), rest(api.Raw{Num: 5, Wire: api.WireBytes, S: "\xff"}),
		}},
		{false, []api.Tree{
			of(slot(1, n(5), n(6))), of(slot(1, n(5), n(5))), of(slot(1, n(5), n(0))), of(slot(7, n(1), n(2))), of(slot(9, m(api.Tree{}), m(api.Tree{}))), of(slot(8, m(api.Tree{}), m(api.Tree{}))), of(slot(2, s("a"), s("b"))),
			of(slot(1)), of(slot(4)), of(slot(8)), of(slot(10)), of(slot(api.MaxNum)),
			of(slot(3, n(1))), of(slot(0, n(1))), of(slot(-1, n(1))), of(slot(5, n(1))), of(slot(11, n(1))), of(slot(19000, n(1))), of(slot(api.MaxNum+1, n(1))), of(slot(1<<32+1, n(1))),
			of(slot(7, n(1)), slot(1, n(1))), of(slot(1, n(1)), slot(1, n(1))), of(slot(1, n(1)), slot(1, n(2))), of(slot(10, s("a")), slot(10, s("b"))), of(slot(1, n(1)), slot(10, s("a")), slot(7, n(1))),
			of(slot(1, s("a"))), of(slot(1, m(api.Tree{}))), of(slot(2, n(1))), of(slot(2, s("\xff"))), of(slot(7, n(1<<31))), of(slot(10, s("a"), s("\xff"), s("b"))), of(slot(api.MaxNum, n(1), n(1<<31))), of(slot(api.MaxNum, n(1<<31), n(1))),
			of(slot(4, m(api.Tree{}), n(0), m(api.Tree{}))), of(slot(4, m(api.Tree{}), m(of(slot(11, n(0)))))), of(slot(4, m(of(slot(11, n(2)))), m(api.Tree{}))),
			of(slot(9, m(of(slot(1, n(1)))))),
		}},
	} {
		for _, y := range l.trees {
			may(t, x, "Order", y, l.want)
			// Deep within, it is the same.
			ring := api.Schema{Messages: append(x.Messages, api.Message{Name: "Root", Fields: []api.Field{{Name: "a", Num: 1, Type: api.TyMessage, Ref: "Order", Rep: true}, {Name: "b", Num: 2, Type: api.TyMessage, Ref: "Root"}}})}
			may(t, ring, "Root", of(slot(2, m(of(slot(1, m(api.Tree{}), m(y), m(full())))))), l.want)
		}
	}
}

// P20.3: the empty tree is each message's. P20.2: it is none of a message that is not there.
func TestTheEmptyTree(t *testing.T) {
	for _, x := range []api.Tree{{}, {Slots: []api.Slot{}}, {Rest: []api.Raw{}}, {Slots: []api.Slot{}, Rest: []api.Raw{}}} {
		for _, mess := range good().Messages {
			may(t, good(), mess.Name, x, true)
		}
		for _, name := range []string{"", "Color", "red", "id", "pick", "order", "Orde", "Orders", " Order", "Order\x00", "\xff"} {
			may(t, good(), name, x, false)
		}
		may(t, api.Schema{}, "", x, false)
		may(t, api.Schema{}, "M", x, false)
		may(t, api.Schema{Enums: good().Enums}, "Color", x, false)
		may(t, api.Schema{Messages: []api.Message{{}}}, "", x, true)
	}
	// Nor is any other tree.
	may(t, good(), "Nowhere", full(), false)
	may(t, good(), "Nowhere", rest(api.Raw{Num: 1}), false)
	may(t, api.Schema{}, "", rest(api.Raw{Num: 1}), false)
}

// P20.2: each value of each type, alone, in a oneof, and among others of a repeated field.
func TestEachTypeInTrees(t *testing.T) {
	for ty := api.TyInt32; ty <= api.TyMessage; ty++ {
		in, out := samples(ty)
		some := in[2]
		for k, f := range forms(typed(4, ty)) {
			x := one(typed(1, api.TyBool), f)
			hidden := k == 0 && ty != api.TyMessage
			for _, v := range in {
				may(t, x, "M", of(slot(4, v)), !hidden || v.N != 0 || v.S != "")
				may(t, x, "M", of(slot(4, some, v)), f.Rep)
				may(t, x, "M", of(slot(4, v, some, v)), f.Rep)
			}
			for _, v := range out {
				may(t, x, "M", of(slot(4, v)), false)
				may(t, x, "M", of(slot(4, some, v)), false)
				may(t, x, "M", of(slot(4, v, some)), false)
				may(t, x, "M", of(slot(1, n(1)), slot(4, v)), false)
			}
		}
	}
}

// P20.2: what a hidden field has not, and others have.
func TestHidden(t *testing.T) {
	for ty := api.TyInt32; ty <= api.TyMessage; ty++ {
		zero, more := api.Val{}, n(1)
		switch ty {
		case api.TyString, api.TyBytes:
			more = s("\x00")
		case api.TyMessage:
			zero, more = m(api.Tree{}), m(of(slot(1, n(1))))
		}
		for k, f := range forms(typed(3, ty)) {
			x := one(f, typed(5, api.TyBool))
			may(t, x, "M", of(slot(3, zero)), k > 0 || ty == api.TyMessage)
			may(t, x, "M", of(slot(3, more)), true)
			may(t, x, "M", of(slot(3, zero), slot(5, n(1))), k > 0 || ty == api.TyMessage)
			may(t, x, "M", of(slot(3, more), slot(5, n(1))), true)
			may(t, x, "M", of(slot(3, more), slot(5, n(0))), false)
			// Several zeros are several values.
			may(t, x, "M", of(slot(3, zero, zero)), k > 1)
			may(t, x, "M", of(slot(3, more, zero)), k > 1)
			may(t, x, "M", of(slot(3, zero, more, zero)), k > 1)
			// Such a value is one of the field's nevertheless.
			val(t, x, f, zero, true)
		}
	}
}

// ones is a schema of a message M with two oneofs, whose fields do not stand side by side, and fields that are in none.
func ones() api.Schema {
	var fields []api.Field
	for i, name := range []string{"o", "p", "", "o", "", "p", "o"} {
		f := typed(2*i+1, api.TyInt32)
		f.One = name
		fields = append(fields, f)
	}
	own := typed(20, api.TyMessage)
	own.Ref, own.One = "M", "o"
	many := typed(21, api.TyMessage)
	many.Ref, many.Rep = "M", true
	return one(append(fields, own, many)...)
}

// P20.2: of two fields of one oneof at most one is there, whatever there is beside them.
func TestOneofs(t *testing.T) {
	x := ones()
	nums := []int{1, 3, 5, 7, 9, 11, 13, 20}
	in := map[int]string{1: "o", 3: "p", 7: "o", 11: "p", 13: "o", 20: "o"}
	for set := range 1 << len(nums) {
		var y api.Tree
		o, p := 0, 0
		for i, num := range nums {
			if set>>i&1 == 0 {
				continue
			}
			v := n(1)
			if num == 20 {
				v = m(api.Tree{})
			}
			y.Slots = append(y.Slots, slot(num, v))
			switch in[num] {
			case "o":
				o++
			case "p":
				p++
			}
		}
		may(t, x, "M", y, o <= 1 && p <= 1)
	}
	// The value that would be hidden is there, too.
	may(t, x, "M", of(slot(1, n(0))), true)
	may(t, x, "M", of(slot(1, n(0)), slot(3, n(0))), true)
	may(t, x, "M", of(slot(1, n(0)), slot(7, n(0))), false)
	may(t, x, "M", of(slot(1, n(0)), slot(7, n(1))), false)
}

// P20.2: trees in one another, and beside one another, have their oneofs each for itself.
func TestOneofsInTrees(t *testing.T) {
	x := ones()
	a, b, both := of(slot(1, n(1))), of(slot(7, n(1))), of(slot(1, n(1)), slot(7, n(1)))
	own := func(y api.Tree) api.Tree { return of(slot(20, m(y))) }
	many := func(l ...api.Tree) api.Tree {
		var vals []api.Val
		for _, y := range l {
			vals = append(vals, m(y))
		}
		return of(slot(21, vals...))
	}
	for _, y := range []struct {
		t    api.Tree
		want bool
	}{
		{own(a), true}, {own(own(a)), true}, {own(own(own(b))), true}, {own(both), false}, {own(own(both)), false},
		{many(a, b), true}, {many(a, a, b, b), true}, {many(a, own(a), own(own(b))), true}, {many(a, both), false}, {many(both, a), false},
		{api.Tree{Slots: append(a.Slots, many(a, b).Slots...)}, true}, {api.Tree{Slots: append(a.Slots, own(api.Tree{}).Slots...)}, false}, {api.Tree{Slots: append(a.Slots, many(both).Slots...)}, false},
		{api.Tree{Slots: append(own(a).Slots, many(own(a)).Slots...)}, true},
	} {
		may(t, x, "M", y.t, y.want)
		// A second time it is the same.
		may(t, x, "M", y.t, y.want)
	}
}

// P20.2: fields of one oneof of another name, or none, are not in one another's way, however many there are.
func TestManyOneofs(t *testing.T) {
	var fields []api.Field
	var y api.Tree
	for i := range 60 {
		f := typed(i+1, api.TyInt32)
		if i%3 > 0 {
			f.One = strings.Repeat("o", i)
		}
		fields = append(fields, f)
		y.Slots = append(y.Slots, slot(i+1, n(1)))
	}
	may(t, one(fields...), "M", y, true)
	for i := range fields {
		for k := range i {
			if fields[i].One != "" && fields[k].One != "" {
				l := slices.Clone(fields)
				l[i].One = l[k].One
				may(t, one(l...), "M", y, false)
			}
		}
	}
}

// P20.2: fields in Rest that are right, and those that are not.
func TestRest(t *testing.T) {
	big := api.MaxNum
	for _, x := range []struct {
		want bool
		l    []api.Raw
	}{
		{true, []api.Raw{
			{Num: 2}, {Num: 2, N: math.MaxUint64}, {Num: 3, Wire: api.Wire64}, {Num: 3, Wire: api.Wire64, N: math.MaxUint64}, {Num: 3, Wire: api.WireBytes}, {Num: 3, Wire: api.WireBytes, S: "\xff\x00"}, {Num: 3, Wire: api.Wire32}, {Num: 3, Wire: api.Wire32, N: math.MaxUint32},
			{Num: big}, {Num: big - 1}, {Num: 19000}, {Num: 19999}, {Num: 18999}, {Num: 20000},
		}},
		{false, []api.Raw{
			{}, {Num: -2}, {Num: big + 1}, {Num: math.MinInt}, {Num: math.MaxInt}, {Num: 1<<32 + 2},
			{Num: 2, Wire: 3}, {Num: 2, Wire: 4}, {Num: 2, Wire: 6}, {Num: 2, Wire: 7}, {Num: 2, Wire: 8}, {Num: 2, Wire: -1}, {Num: 2, Wire: math.MaxInt},
			{Num: 2, S: "a"}, {Num: 2, N: 1, S: "\x00"}, {Num: 2, Wire: api.Wire64, S: "a"}, {Num: 2, Wire: api.Wire32, S: "a"}, {Num: 2, Wire: api.Wire32, N: 1 << 32}, {Num: 2, Wire: api.Wire32, N: math.MaxUint64}, {Num: 2, Wire: api.WireBytes, N: 1}, {Num: 2, Wire: api.WireBytes, N: 1, S: "a"},
			// The message knows the numbers 1 and 4, of whatever wire type they are told.
			{Num: 1}, {Num: 1, N: 5}, {Num: 1, Wire: api.WireBytes}, {Num: 1, Wire: api.Wire32}, {Num: 4}, {Num: 4, Wire: api.WireBytes, S: "a"}, {Num: 4, Wire: api.Wire64},
		}},
	} {
		schema := one(typed(1, api.TyInt32), typed(4, api.TyMessage))
		for _, y := range x.l {
			a, b := api.Raw{Num: 7, N: 1}, api.Raw{Num: 6, Wire: api.WireBytes, S: "b"}
			for _, l := range [][]api.Raw{{y}, {y, a}, {a, y}, {a, y, b}, {b, a, y, y}} {
				may(t, schema, "M", rest(l...), x.want)
				may(t, schema, "M", api.Tree{Slots: []api.Slot{slot(1, n(1)), slot(4, m(api.Tree{}))}, Rest: l}, x.want)
			}
			// Also in a tree within, whose message knows the numbers 1 and 2.
			within := x.want && y.Num != 2 || y.Num == 4
			may(t, schema, "M", of(slot(4, m(rest(a, y, b)))), within)
		}
	}
}

// P20.2: barred numbers, and those that only another message has, are known to none.
func TestRestOfOtherMessages(t *testing.T) {
	for _, num := range []int{1, 2, 3, 4, 5, 6, 7, 8, 9, 10, 11, 12, 13, 14, 18999, 19000, 20000, 20001, api.MaxNum - 1, api.MaxNum} {
		for _, mess := range good().Messages {
			has := slices.ContainsFunc(mess.Fields, func(f api.Field) bool { return f.Num == num })
			may(t, good(), mess.Name, rest(api.Raw{Num: num, Wire: api.WireBytes}), !has)
		}
	}
}

// P20.2, P20.1: of two messages of one name, and of two fields of one number, the first one counts.
func TestTheFirstOne(t *testing.T) {
	a, b := typed(1, api.TyInt32), typed(2, api.TyString)
	x := api.Schema{Messages: []api.Message{{Name: "L"}, {Name: "M", Fields: []api.Field{a}}, {Name: "M", Fields: []api.Field{b, typed(3, api.TyBool)}}, {Name: "L", Fields: []api.Field{a}}}}
	may(t, x, "M", of(slot(1, n(1))), true)
	may(t, x, "M", of(slot(2, s("a"))), false)
	may(t, x, "M", of(slot(3, n(1))), false)
	may(t, x, "M", rest(api.Raw{Num: 2}), true)
	may(t, x, "M", rest(api.Raw{Num: 1}), false)
	may(t, x, "L", of(slot(1, n(1))), false)
	may(t, x, "L", rest(api.Raw{Num: 1}), true)
	for _, y := range []struct {
		name string
		num  int
		want bool
	}{{"M", 1, true}, {"M", 2, false}, {"M", 3, false}, {"L", 1, false}} {
		is(t, "Knows of "+y.name+" and "+strconv.Itoa(y.num), valid.Knows(x, y.name, y.num), y.want)
	}
	f := api.Field{Name: "a", Num: 1, Type: api.TyMessage, Ref: "M"}
	val(t, x, f, m(of(slot(1, n(1)))), true)
	val(t, x, f, m(of(slot(2, s("a")))), false)
	// Fields of one number: of other types, repeated and not, hidden and not, in a oneof and in none.
	rep, in, text := a, a, b
	rep.Rep, in.One, text.Num = true, "o", 1
	for _, y := range []struct {
		fields []api.Field
		t      api.Tree
		want   bool
	}{
		{[]api.Field{a, text}, of(slot(1, n(1))), true}, {[]api.Field{text, a}, of(slot(1, n(1))), false}, {[]api.Field{text, a}, of(slot(1, s("a"))), true},
		{[]api.Field{a, rep}, of(slot(1, n(1), n(2))), false}, {[]api.Field{rep, a}, of(slot(1, n(1), n(2))), true},
		{[]api.Field{a, in}, of(slot(1, n(0))), false}, {[]api.Field{in, a}, of(slot(1, n(0))), true},
		{[]api.Field{b, a, in}, of(slot(1, n(0)), slot(2, s("a"))), false},
		{[]api.Field{in, in}, of(slot(1, n(0))), true}, {[]api.Field{in, in}, of(slot(1, n(0)), slot(1, n(0))), false},
		{[]api.Field{a, in, {Num: 2, Type: api.TyBool, One: "o"}}, of(slot(1, n(1)), slot(2, n(1))), true},
		{[]api.Field{in, a, {Num: 2, Type: api.TyBool, One: "o"}}, of(slot(1, n(1)), slot(2, n(1))), false},
	} {
		may(t, one(y.fields...), "M", y.t, y.want)
		is(t, "Knows of two fields", valid.Knows(one(y.fields...), "M", 1), true)
	}
}

// P20.2: schemas that may not be are taken as they are.
func TestSchemasThatMayNotBe(t *testing.T) {
	low, high := typed(math.MinInt, api.TyInt32), typed(math.MaxInt, api.TyInt32)
	both := api.Field{Num: 2, Type: api.TyBool, Rep: true, One: "o"}
	lost := api.Field{Num: 3, Type: api.TyMessage, Ref: "Nowhere"}
	x := one(high, low, typed(0, api.TyInt32), typed(-5, api.TyBytes), both, lost, api.Field{Num: 4, Type: api.TyInt32, One: "\xff"}, api.Field{Num: 5, Type: api.TyInt32, One: "o"}, api.Field{Num: 6, Type: api.TyBool, Loose: true}, api.Field{Num: 7, Type: api.TyInt32, One: "\xff"})
	x.Messages[0].Barred = []int{4, 5, 5, -1, 0}
	for _, y := range []struct {
		t    api.Tree
		want bool
	}{
		// Numbers that no field may have are such that these fields have.
		{of(slot(math.MinInt, n(1)), slot(-5, s("a")), slot(0, n(1)), slot(4, n(1)), slot(math.MaxInt, n(1))), true},
		{of(slot(math.MinInt, n(1)), slot(-5, s("a")), slot(0, n(0))), false},
		{of(slot(math.MaxInt, n(1)), slot(math.MinInt, n(1))), false},
		{of(slot(0, n(1)), slot(-5, s("a"))), false},
		{of(slot(-5, s("a")), slot(-5, s("a"))), false},
		// What is repeated in a oneof may have many values.
		{of(slot(2, n(0), n(1), n(0))), true},
		{of(slot(2, n(0), n(1)), slot(5, n(1))), false},
		// No value is of a message that is not there.
		{of(slot(3, m(api.Tree{}))), false},
		{of(slot(3, n(0))), false},
		// A oneof's name need be none, and barred numbers are fields' nevertheless.
		{of(slot(4, n(0))), true},
		{of(slot(4, n(0)), slot(5, n(0))), true},
		{of(slot(4, n(0)), slot(7, n(0))), false},
		{rest(api.Raw{Num: 4}), false},
		// What is loose alone is not repeated.
		{of(slot(6, n(1))), true},
		{of(slot(6, n(0))), false},
		{of(slot(6, n(1), n(1))), false},
	} {
		may(t, x, "M", y.t, y.want)
	}
}

// P20.2: what stands behind a list, in its room, is none of it.
func TestRoomBehindLists(t *testing.T) {
	fields := []api.Field{typed(1, api.TyInt32), typed(2, api.TyMessage), typed(3, api.TyInt32)}
	x := one(fields[:2]...)
	more := one().Messages
	more = append(more, api.Message{Name: "L"})
	slots := []api.Slot{slot(1, n(1)), slot(1, n(0))}
	vals := []api.Val{n(1), n(1)}
	trees := []api.Tree{{}, {}}
	fieldsBehind := []api.Raw{{Num: 9}, {Num: 1}}
	may(t, x, "M", of(slots[:1]...), true)
	may(t, x, "M", of(slot(1, vals[:1]...)), true)
	may(t, x, "M", of(slot(1, vals[:0]...)), false)
	may(t, x, "M", of(slot(2, m(trees[:1]...))), true)
	may(t, x, "M", of(slot(2, m(trees[:0]...))), false)
	may(t, x, "M", rest(fieldsBehind[:1]...), true)
	may(t, x, "M", of(slot(3, n(1))), false)
	may(t, x, "M", rest(api.Raw{Num: 3}), true)
	may(t, api.Schema{Messages: more[:2]}, "L", api.Tree{}, false)
	is(t, "Knows of a field in the room", valid.Knows(x, "M", 3), false)
}

// spot is a tree within another one, and the message that it is of.
type spot struct {
	m api.Message
	t *api.Tree
}

// reach is each tree within t, t among them.
func reach(s api.Schema, name string, t *api.Tree) []spot {
	mess := messageBy(s, name)
	l := []spot{{*mess, t}}
	for i := range t.Slots {
		f := fieldBy(mess, t.Slots[i].Num)
		for k := range t.Slots[i].Vals {
			for j := range t.Slots[i].Vals[k].M {
				l = append(l, reach(s, f.Ref, &t.Slots[i].Vals[k].M[j])...)
			}
		}
	}
	return l
}

// laid is the slots with one more, where its number is to stand.
func laid(l []api.Slot, x api.Slot) []api.Slot {
	at := slices.IndexFunc(l, func(y api.Slot) bool { return y.Num >= x.Num })
	if at < 0 {
		at = len(l)
	}
	return slices.Insert(slices.Clone(l), at, x)
}

// faults is all that can be changed of one thing of the tree alone, so that it is none of the message any more.
func faults(x spot) (l []func()) {
	t := x.t
	for _, num := range []int{math.MinInt, -1, 0, 3, 5, 14, 15, 19000, 20001, api.MaxNum - 1, api.MaxNum + 1, math.MaxInt} {
		if fieldBy(&x.m, num) == nil {
			for _, v := range []api.Val{n(1), s("a"), m(api.Tree{})} {
				l = append(l, func() { t.Slots = laid(t.Slots, slot(num, v)) })
			}
		}
	}
	for _, y := range []api.Raw{{}, {Num: -1}, {Num: api.MaxNum + 1}, {Num: 15, Wire: 3}, {Num: 15, Wire: 4}, {Num: 15, Wire: 6}, {Num: 15, S: "a"}, {Num: 15, Wire: api.Wire32, N: 1 << 32}, {Num: 15, Wire: api.WireBytes, N: 1}} {
		l = append(l, func() { t.Rest = append(slices.Clone(t.Rest), y) }, func() { t.Rest = append([]api.Raw{y}, t.Rest...) })
	}
	for _, f := range x.m.Fields {
		y := api.Raw{Num: f.Num, Wire: api.WireBytes, S: "known"}
		l = append(l, func() { t.Rest = append(slices.Clone(t.Rest), y) }, func() { t.Rest = append([]api.Raw{y}, t.Rest...) })
		if fieldThere(t, f.Num) == nil && f.One != "" && slices.ContainsFunc(t.Slots, func(y api.Slot) bool { return fieldBy(&x.m, y.Num).One == f.One }) {
			l = append(l, func() { t.Slots = laid(t.Slots, slot(f.Num, oneOf(f))) })
		}
		if fieldThere(t, f.Num) == nil {
			l = append(l, func() { t.Slots = laid(t.Slots, slot(f.Num)) })
		}
	}
	for i := range t.Slots {
		l = append(l, slotFaults(x, i)...)
	}
	for i := range t.Rest {
		y := &t.Rest[i]
		l = append(l, func() { y.Num = 0 }, func() { y.Num = -y.Num }, func() { y.Num += api.MaxNum }, func() { y.Wire = 3 }, func() { y.Wire = -1 }, func() { y.Wire += 8 })
	}
	return l
}

// fieldThere is the slot of that number.
func fieldThere(t *api.Tree, num int) *api.Slot {
	for i := range t.Slots {
		if t.Slots[i].Num == num {
			return &t.Slots[i]
		}
	}
	return nil
}

// oneOf is a value of the field, as far as that hangs on its type alone.
func oneOf(f api.Field) api.Val {
	switch f.Type {
	case api.TyString, api.TyBytes:
		return s("a")
	case api.TyMessage:
		return m(api.Tree{})
	}
	return n(1)
}

// slotFaults is what can be changed of the slot at that place alone.
func slotFaults(x spot, i int) (l []func()) {
	y, f := &x.t.Slots[i], fieldBy(&x.m, x.t.Slots[i].Num)
	l = append(l, func() { y.Vals = nil }, func() { y.Vals = []api.Val{} }, func() { x.t.Slots = slices.Insert(slices.Clone(x.t.Slots), i, *y) })
	if i > 0 {
		l = append(l, func() { x.t.Slots[i-1], x.t.Slots[i] = x.t.Slots[i], x.t.Slots[i-1] }, func() { y.Num = x.t.Slots[i-1].Num })
	}
	if !f.Rep {
		l = append(l, func() { y.Vals = append(slices.Clone(y.Vals), y.Vals...) }, func() { y.Vals = append(slices.Clone(y.Vals), oneOf(*f)) })
	}
	if !f.Rep && f.One == "" && f.Type != api.TyMessage {
		l = append(l, func() { y.Vals[0] = api.Val{} })
	}
	for k := range y.Vals {
		v := &y.Vals[k]
		if f.Type == api.TyMessage {
			l = append(l, func() { *v = n(0) }, func() { *v = n(1) }, func() { *v = s("a") }, func() { v.N = 1 }, func() { v.S = "\x00" }, func() { v.M = append(slices.Clone(v.M), api.Tree{}) })
			continue
		}
		_, out := samples(f.Type)
		for _, w := range out {
			l = append(l, func() { *v = w })
		}
	}
	return l
}

// P20.2: a tree that is a message's, with one thing alone changed, wherever it is, is none.
func TestOneChange(t *testing.T) {
	l := func(x *api.Tree) (l []func()) {
		for _, y := range reach(good(), "Order", x) {
			l = append(l, faults(y)...)
		}
		return l
	}
	x := full()
	all := len(l(&x))
	if all < 1000 {
		t.Errorf("there are no more than %d changes", all)
	}
	for i := range all {
		x := full()
		may(t, good(), "Order", x, true)
		l(&x)[i]()
		may(t, good(), "Order", x, false)
		// In no other message it is one either.
		is(t, "Val of a changed tree", valid.Val(good(), api.Field{Name: "a", Num: 1, Type: api.TyMessage, Ref: "Order"}, m(x)), false)
	}
}

// P20.3: without one slot, or one field of its Rest, wherever it is, a tree is still one.
func TestWithoutOne(t *testing.T) {
	without := func(x *api.Tree) (l []func()) {
		for _, y := range reach(good(), "Order", x) {
			for i := range y.t.Slots {
				l = append(l, func() { y.t.Slots = slices.Delete(y.t.Slots, i, i+1) })
			}
			for i := range y.t.Rest {
				l = append(l, func() { y.t.Rest = slices.Delete(y.t.Rest, i, i+1) })
			}
		}
		return l
	}
	x := full()
	for i := range without(&x) {
		y := full()
		without(&y)[i]()
		may(t, good(), "Order", y, true)
		// And without more, one behind the other, till nothing is left.
		for k := i; tree.Count(y) > 0; k++ {
			l := without(&y)
			l[k%len(l)]()
			may(t, good(), "Order", y, true)
		}
	}
	// With all sets of what is there.
	z := full()
	for set := range 1 << len(z.Slots) {
		var y api.Tree
		for i, x := range z.Slots {
			if set>>i&1 == 1 {
				y.Slots = append(y.Slots, x)
			}
		}
		for i, x := range z.Rest {
			if set>>i&1 == 1 {
				y.Rest = append(y.Rest, x)
			}
		}
		may(t, good(), "Order", y, true)
	}
}

// messageBy is the first message of that name, by the words of P20.2.
func messageBy(s api.Schema, name string) *api.Message {
	for i := range s.Messages {
		if s.Messages[i].Name == name {
			return &s.Messages[i]
		}
	}
	return nil
}

// fieldBy is the first field of that number.
func fieldBy(m *api.Message, num int) *api.Field {
	for i := range m.Fields {
		if m.Fields[i].Num == num {
			return &m.Fields[i]
		}
	}
	return nil
}

// valBy is what Val has to answer, by the words of P20.1.
func valBy(s api.Schema, f api.Field, v api.Val) bool {
	switch f.Type {
	case 1, 5, 10, 14:
		return int64(v.N) == int64(int32(v.N)) && v.S == "" && v.M == nil
	case 2, 4, 6, 9, 11:
		return v.S == "" && v.M == nil
	case 3, 8:
		return v.N < 1<<32 && v.S == "" && v.M == nil
	case 7:
		return v.N <= 1 && v.S == "" && v.M == nil
	case 12:
		// What is no rune comes back as another one.
		return v.N == 0 && v.M == nil && string([]rune(v.S)) == v.S
	case 13:
		return v.N == 0 && v.M == nil
	case 15:
		return v.N == 0 && v.S == "" && len(v.M) == 1 && treeBy(s, f.Ref, v.M[0])
	}
	return false
}

// rawBy tells whether the field is right, by the words of P7.1.
func rawBy(x api.Raw) bool {
	if x.Num < 1 || x.Num > 1<<29-1 {
		return false
	}
	switch x.Wire {
	case 0, 1:
		return x.S == ""
	case 2:
		return x.N == 0
	case 5:
		return x.S == "" && x.N < 1<<32
	}
	return false
}

// treeBy is what Tree has to answer, by the words of P20.2.
func treeBy(s api.Schema, name string, t api.Tree) bool {
	mess := messageBy(s, name)
	if mess == nil {
		return false
	}
	for i, x := range t.Slots {
		f := fieldBy(mess, x.Num)
		if f == nil || i > 0 && t.Slots[i-1].Num >= x.Num || len(x.Vals) == 0 || len(x.Vals) > 1 && !f.Rep {
			return false
		}
		for _, y := range t.Slots[:i] {
			if f.One != "" && fieldBy(mess, y.Num).One == f.One {
				return false
			}
		}
		for _, v := range x.Vals {
			hidden := !f.Rep && f.One == "" && f.Type != 15
			if !valBy(s, *f, v) || hidden && v.N == 0 && v.S == "" {
				return false
			}
		}
	}
	for _, x := range t.Rest {
		if !rawBy(x) || fieldBy(mess, x.Num) != nil {
			return false
		}
	}
	return true
}

// pick is one of those.
func pick[T any](r *rand.Rand, l ...T) T {
	return l[r.Intn(len(l))]
}

// number is a field's number, seldom one that none may have.
func number(r *rand.Rand) int {
	if r.Intn(12) == 0 {
		return pick(r, 0, -1, api.MaxNum, api.MaxNum+1, math.MinInt, math.MaxInt, 19000)
	}
	return 1 + r.Intn(7)
}

// chance is a schema by chance, which mostly may not be: of few names and few numbers, so that some are there twice, and some are not.
func chance(r *rand.Rand) api.Schema {
	var x api.Schema
	for range r.Intn(5) {
		mess := api.Message{Name: pick(r, "A", "B", "C", "")}
		for range r.Intn(7) {
			f := api.Field{Name: pick(r, "a", "b"), Num: number(r), Type: 1 + r.Intn(15), Rep: r.Intn(3) == 0, Loose: r.Intn(5) == 0, One: pick(r, "", "", "", "", "o", "p")}
			if f.Type > 13 || r.Intn(20) == 0 {
				f.Ref = pick(r, "A", "B", "C", "A", "B", "C", "", "D")
			}
			if r.Intn(4) == 0 {
				f.Type, f.Ref = api.TyMessage, pick(r, "A", "B", "C")
			}
			if r.Intn(40) == 0 {
				f.Type = pick(r, 0, 16, -1, math.MaxInt)
			}
			mess.Fields = append(mess.Fields, f)
		}
		x.Messages = append(x.Messages, mess)
	}
	return x
}

// drawVal is a value of the field, seldom one that is none.
func drawVal(r *rand.Rand, s api.Schema, f api.Field, deep int) api.Val {
	if r.Intn(60) == 0 {
		return pick(r, api.Val{}, n(r.Uint64()), api.Val{S: "\xff"}, api.Val{N: 1, S: "a"}, m(api.Tree{}), m(api.Tree{}, api.Tree{}))
	}
	if f.Type == api.TyMessage {
		return m(draw(r, s, f.Ref, deep-1))
	}
	in, out := samples(f.Type)
	if r.Intn(40) == 0 && len(out) > 0 {
		return pick(r, out...)
	}
	v := pick(r, in...)
	// So that it is compared as nothing, too.
	v.M = nil
	return v
}

// draw is a tree of the message of that name, seldom one that is none.
func draw(r *rand.Rand, s api.Schema, name string, deep int) api.Tree {
	var t api.Tree
	mess := messageBy(s, name)
	if mess == nil || deep == 0 {
		return t
	}
	for _, f := range mess.Fields {
		if r.Intn(2) == 0 || r.Intn(10) > 0 && fieldThere(&t, f.Num) != nil {
			continue
		}
		x := slot(f.Num, drawVal(r, s, f, deep))
		if f.Rep || r.Intn(60) == 0 {
			for range r.Intn(3) {
				x.Vals = append(x.Vals, drawVal(r, s, f, deep))
			}
		}
		t.Slots = laid(t.Slots, x)
	}
	for range r.Intn(3) {
		x := api.Raw{Num: 1 + r.Intn(12), Wire: pick(r, 0, 1, 2, 5), N: uint64(r.Intn(3))}
		if x.Wire == api.WireBytes {
			x.N, x.S = 0, pick(r, "", "a", "\xff")
		}
		if r.Intn(20) == 0 {
			x.Num, x.Wire = number(r), pick(r, 0, 1, 2, 3, 4, 5, 6)
		}
		t.Rest = append(t.Rest, x)
	}
	return t
}

// P20.1, P20.2: what is a value by the words, of schemas and trees by chance. P20.3: what is left of one is one.
func TestByTheWords(t *testing.T) {
	r := rand.New(rand.NewSource(20))
	right, wrong := 0, 0
	for range 60000 {
		x, name := good(), pick(r, "Order", "Item", "Box", "Ring", "Nowhere")
		if r.Intn(3) > 0 {
			x, name = chance(r), pick(r, "A", "B", "C", "")
		}
		y := draw(r, x, name, 4)
		want := treeBy(x, name, y)
		may(t, x, name, y, want)
		f := api.Field{Name: "a", Num: 1, Type: api.TyMessage, Ref: name}
		is(t, "Val of a tree by chance", valid.Val(x, f, m(y)), want)
		f.Type = 1 + r.Intn(15)
		v := drawVal(r, x, f, 3)
		val(t, x, f, v, valBy(x, f, v))
		num := number(r)
		mess := messageBy(x, name)
		is(t, "Knows by chance", valid.Knows(x, name, num), mess != nil && fieldBy(mess, num) != nil)
		if !want {
			wrong++
			continue
		}
		right++
		leftIsOne(t, x, name, y)
	}
	if right < 5000 || wrong < 5000 {
		t.Errorf("%d trees were one, %d were none", right, wrong)
	}
}

// leftIsOne asks that without a slot, or a field of its Rest, the tree is still one.
func leftIsOne(t *testing.T, s api.Schema, name string, x api.Tree) {
	t.Helper()
	for i := range x.Slots {
		may(t, s, name, api.Tree{Slots: slices.Delete(slices.Clone(x.Slots), i, i+1), Rest: x.Rest}, true)
	}
	for i := range x.Rest {
		may(t, s, name, api.Tree{Slots: x.Slots, Rest: slices.Delete(slices.Clone(x.Rest), i, i+1)}, true)
	}
	may(t, s, name, of(x.Slots...), true)
	may(t, s, name, rest(x.Rest...), true)
	may(t, s, name, api.Tree{}, true)
}

// Rule 3: nothing that is handed in is changed.
func TestNothingIsChanged(t *testing.T) {
	r := rand.New(rand.NewSource(203))
	for range 2000 {
		x, name := chance(r), pick(r, "A", "B", "C")
		if r.Intn(4) == 0 {
			x, name = good(), "Order"
		}
		y := draw(r, x, name, 4)
		was := fmt.Sprintf("%#v %#v", x, y)
		valid.Tree(x, name, y)
		valid.Knows(x, name, 1)
		valid.Val(x, api.Field{Type: api.TyMessage, Ref: name}, m(y))
		if now := fmt.Sprintf("%#v %#v", x, y); now != was {
			t.Errorf("changed: %s", short(now))
		}
	}
}

// Rule 4: what is answered hangs on what is handed in alone: not on what was asked ahead of it, nor on what is asked meanwhile.
func TestNothingIsKept(t *testing.T) {
	x, right := good(), full()
	wrong := of(slot(2, s("a")), slot(6, n(1)))
	var all sync.WaitGroup
	for range 8 {
		all.Go(func() {
			for range 200 {
				if !valid.Tree(x, "Order", right) || valid.Tree(x, "Order", wrong) || !valid.Knows(x, "Order", 2) || valid.Knows(x, "Item", 4) {
					t.Error("not the same once more")
				}
			}
		})
	}
	all.Wait()
	// A list that is changed between two calls is read anew.
	right.Slots[0].Vals[0].N = 0
	may(t, x, "Order", right, false)
	right.Slots[0].Vals[0].N = 1
	may(t, x, "Order", right, true)
	x.Messages[0].Fields[0].Type = api.TyString
	may(t, x, "Order", right, false)
}

// Limits: 2^16 trees nested in one another, and very many things beside one another: all calls end, in time.
func TestMuch(t *testing.T) {
	const deep, many = 1 << 16, 300000
	right, wrong := api.Tree{}, rest(api.Raw{Num: 1})
	for range deep - 1 {
		right, wrong = of(slot(1, m(right))), of(slot(1, m(wrong)))
	}
	may(t, good(), "Ring", right, true)
	may(t, good(), "Ring", wrong, false)
	f := api.Field{Type: api.TyMessage, Ref: "Ring"}
	is(t, "Val of a very deep tree", valid.Val(good(), f, m(right)), true)
	is(t, "Val of a very deep tree", valid.Val(good(), f, m(wrong)), false)
	var vals []api.Val
	var fields []api.Raw
	for i := range many {
		vals = append(vals, m(of(slot(12, s("a")))))
		fields = append(fields, api.Raw{Num: 100 + i})
	}
	wide := api.Tree{Slots: []api.Slot{slot(4, vals...)}, Rest: fields}
	wide.Rest[20000-100].Num = 3
	may(t, good(), "Order", wide, true)
	wide.Rest[many-1].Num = 4
	may(t, good(), "Order", wide, false)
	wide.Rest[many-1].Num = 3
	vals[many-1] = n(1)
	may(t, good(), "Order", wide, false)
	text := strings.Repeat("é", 1<<22)
	may(t, good(), "Order", of(slot(10, s(text))), true)
	may(t, good(), "Order", of(slot(10, s(text+"\xc3"))), false)
	greatSchema(t)
}

// greatSchema asks of a schema that has very many messages, and fields in a oneof or in none.
func greatSchema(t *testing.T) {
	t.Helper()
	const many = 5000
	x := one()
	var y api.Tree
	for i := range many {
		f := typed(i+1, api.TyInt32)
		x.Messages[0].Fields = append(x.Messages[0].Fields, f)
		x.Messages = append(x.Messages, api.Message{Name: "N" + strconv.Itoa(i)})
		y.Slots = append(y.Slots, slot(i+1, n(1)))
	}
	may(t, x, "M", y, true)
	may(t, x, "N"+strconv.Itoa(many-1), api.Tree{}, true)
	x.Messages[0].Fields[0].One, x.Messages[0].Fields[many-1].One = "o", "o"
	may(t, x, "M", y, false)
	is(t, "Knows of very many", valid.Knows(x, "M", many), true)
	is(t, "Knows of very many", valid.Knows(x, "M", many+1), false)
}
