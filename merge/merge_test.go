package merge_test

import (
	"cmp"
	"fmt"
	"math"
	"math/rand"
	"runtime"
	"slices"
	"strconv"
	"strings"
	"sync"
	"testing"
	"unsafe"

	"ecdysis/api"
	"ecdysis/decode"
	"ecdysis/encode"
	"ecdysis/merge"
	"ecdysis/num"
	"ecdysis/schema"
	"ecdysis/tree"
	"ecdysis/valid"
)

// good is a schema that may be: fields of all kinds, two oneofs in one message whose fields do not stand side by side, messages in a chain, in a ring, and of themselves, and one without a field. It is made anew each time.
func good() api.Schema {
	return api.Schema{
		Enums: []api.Enum{{Name: "Color", Values: []api.Value{{Name: "red"}, {Name: "blue", Num: 3}}}},
		Messages: []api.Message{
			{Name: "Order", Fields: []api.Field{
				{Name: "id", Num: 1, Type: api.TyUint64},
				{Name: "text", Num: 2, Type: api.TyString, One: "pick"},
				{Name: "item", Num: 4, Type: api.TyMessage, Ref: "Item", Rep: true},
				{Name: "amount", Num: 6, Type: api.TySint32, One: "pick"},
				{Name: "color", Num: 7, Type: api.TyEnum, Ref: "Color"},
				{Name: "spare", Num: 8, Type: api.TyMessage, Ref: "Item", One: "other"},
				{Name: "sole", Num: 9, Type: api.TyMessage, Ref: "Note"},
				{Name: "words", Num: 10, Type: api.TyString, Rep: true},
				{Name: "blob", Num: 20000, Type: api.TyBytes, One: "pick"},
				{Name: "last", Num: api.MaxNum, Type: api.TyInt32, Rep: true, Loose: true},
			}, Barred: []int{3, 5, 19000}},
			{Name: "Box", Fields: []api.Field{
				{Name: "next", Num: 1, Type: api.TyMessage, Ref: "Item", One: "pick"},
				{Name: "none", Num: 3, Type: api.TyBool, One: "pick"},
				{Name: "fix", Num: 5, Type: api.TySfixed64},
				{Name: "small", Num: 6, Type: api.TyFixed32, Rep: true},
			}},
			{Name: "Item", Fields: []api.Field{
				{Name: "size", Num: 1, Type: api.TyEnum, Ref: "Color", Rep: true},
				{Name: "note", Num: 2, Type: api.TyMessage, Ref: "Note"},
				{Name: "box", Num: 3, Type: api.TyMessage, Ref: "Box"},
				{Name: "flag", Num: 11, Type: api.TyBool},
				{Name: "name", Num: 12, Type: api.TyString},
				{Name: "raw", Num: 13, Type: api.TyBytes},
			}},
			{Name: "Note"},
			{Name: "Ring", Fields: []api.Field{
				{Name: "ring", Num: 1, Type: api.TyMessage, Ref: "Ring"},
				{Name: "text", Num: 2, Type: api.TyBytes},
				{Name: "rings", Num: 3, Type: api.TyMessage, Ref: "Ring", Rep: true},
				{Name: "flags", Num: 4, Type: api.TyBool, Rep: true},
				{Name: "bits", Num: 5, Type: api.TyBool, Rep: true, Loose: true},
				{Name: "texts", Num: 6, Type: api.TyBytes, Rep: true},
			}},
		},
	}
}

// full is a value of Order that has all there can be: fields of all kinds, each repeated one with several values, messages four deep, oneofs with a field, also within one another, fields of Rest, also within. It is made anew each time.
func full() api.Tree {
	box := api.Tree{
		Slots: []api.Slot{slot(1, m(of(slot(1, n(7)), slot(11, n(1))))), slot(5, n(math.MaxUint64)), slot(6, n(1), n(2))},
		Rest:  []api.Raw{{Num: 2, Wire: api.WireBytes, S: "in a box"}, {Num: 9, Wire: api.Wire32, N: math.MaxUint32}},
	}
	item := api.Tree{
		Slots: []api.Slot{slot(1, n(0), n(3), n(math.MaxUint64)), slot(2, m(rest(api.Raw{Num: 1, N: 5}))), slot(3, m(box)), slot(11, n(1)), slot(12, s("é")), slot(13, s("\xff"))},
		Rest:  []api.Raw{{Num: 4, N: 1}, {Num: 4, N: 1}, {Num: 20000, Wire: api.Wire64, N: math.MaxUint64}},
	}
	return api.Tree{
		Slots: []api.Slot{slot(1, n(5)), slot(4, m(item), m(api.Tree{}), m(of(slot(3, m(of(slot(3, n(0)))))))), slot(6, n(0)), slot(7, n(77)), slot(8, m(item)), slot(9, m(api.Tree{})), slot(10, s(""), s("a"), s("")), slot(api.MaxNum, n(0), n(1<<31-1))},
		Rest:  []api.Raw{{Num: 3, N: 8}, {Num: 19000, Wire: api.WireBytes, S: "barred"}, {Num: 11, Wire: api.WireBytes}, {Num: 3, Wire: api.Wire32}},
	}
}

// of is a tree of those slots.
func of(slots ...api.Slot) api.Tree {
	return api.Tree{Slots: slots}
}

// slot is a slot of those values.
func slot(num int, vals ...api.Val) api.Slot {
	return api.Slot{Num: num, Vals: vals}
}

// rest is a tree of no slots and those fields.
func rest(l ...api.Raw) api.Tree {
	return api.Tree{Rest: l}
}

// n is the value that is a number.
func n(u uint64) api.Val {
	return api.Val{N: u}
}

// s is the value that is a text.
func s(text string) api.Val {
	return api.Val{S: text}
}

// m is the value that is those trees.
func m(l ...api.Tree) api.Val {
	return api.Val{M: l}
}

// one is a schema of a message M with those fields, of a message N with a field of each of the types uint32 and N, and many of uint32, and of an enum.
func one(fields ...api.Field) api.Schema {
	return api.Schema{
		Enums: []api.Enum{{Name: "E", Values: []api.Value{{Name: "x"}, {Name: "y", Num: 3}}}},
		Messages: []api.Message{{Name: "M", Fields: fields}, {Name: "N", Fields: []api.Field{
			{Name: "a", Num: 1, Type: api.TyUint32}, {Name: "n", Num: 2, Type: api.TyMessage, Ref: "N"}, {Name: "l", Num: 4, Type: api.TyUint32, Rep: true},
		}}},
	}
}

// typed is a field of that type; of TyMessage its message is N.
func typed(num, ty int) api.Field {
	f := api.Field{Name: "f" + strconv.Itoa(num), Num: num, Type: ty}
	if ty == api.TyEnum {
		f.Ref = "E"
	}
	if ty == api.TyMessage {
		f.Ref = "N"
	}
	return f
}

// in is the field in that oneof.
func in(one string, f api.Field) api.Field {
	f.One = one
	return f
}

// many is the field with many values.
func many(f api.Field) api.Field {
	f.Rep = true
	return f
}

// loose is the field with many values, which are written one by one.
func loose(f api.Field) api.Field {
	f.Rep, f.Loose = true, true
	return f
}

// samples is values of the type; the first one is not 0, nor empty, and the second one is.
func samples(ty int) []api.Val {
	switch ty {
	case api.TyBool:
		return []api.Val{n(1), n(0)}
	case api.TyUint32, api.TyFixed32:
		return []api.Val{n(300), n(0), n(1), n(math.MaxUint32)}
	case api.TyInt64, api.TyUint64, api.TySint64, api.TyFixed64, api.TySfixed64:
		return []api.Val{n(300), n(0), n(1 << 63), n(math.MaxUint64)}
	case api.TyString:
		return []api.Val{s("ab"), s(""), s("\x00"), s("é")}
	case api.TyBytes:
		return []api.Val{s("ab"), s(""), s("\xff\x80")}
	case api.TyMessage:
		return []api.Val{m(of(slot(1, n(5)))), m(api.Tree{}), m(of(slot(2, m(api.Tree{})))), m(rest(api.Raw{Num: 3, N: 1}))}
	}
	return []api.Val{n(300), n(0), n(math.MaxUint64), n(1<<31 - 1), n(math.MaxUint64 - 1<<31 + 1)}
}

// short is the text, if it is not too long to be told.
func short(s string) string {
	if len(s) > 3000 {
		return s[:3000] + " .."
	}
	return s
}

// merges asks Merge, and All of both, for just that tree, and that it is one of the message's values (P23.2).
func merges(t *testing.T, x api.Schema, name string, a, b, want api.Tree) {
	t.Helper()
	got, ok := merge.Merge(x, name, a, b)
	if !ok || !tree.Same(got, want) {
		t.Fatal(short(fmt.Sprintf("Merge of %s, %+v and %+v: %+v, %v; wanted %+v; the schema: %+v", name, a, b, got, ok, want, x)))
	}
	if !valid.Tree(x, name, got) {
		t.Fatal(short(fmt.Sprintf("Merge of %s, %+v and %+v: no value: %+v", name, a, b, got)))
	}
	alls(t, x, name, want, a, b)
}

// alls asks All for just that tree.
func alls(t *testing.T, x api.Schema, name string, want api.Tree, l ...api.Tree) {
	t.Helper()
	if got, ok := merge.All(x, name, l...); !ok || !tree.Same(got, want) || !valid.Tree(x, name, got) {
		t.Fatal(short(fmt.Sprintf("All of %s and %+v: %+v, %v; wanted %+v; the schema: %+v", name, l, got, ok, want, x)))
	}
}

// refuses asks Merge for false, and All of both, and the empty tree beside it.
func refuses(t *testing.T, x api.Schema, name string, a, b api.Tree) {
	t.Helper()
	if got, ok := merge.Merge(x, name, a, b); ok || len(got.Slots) > 0 || len(got.Rest) > 0 {
		t.Fatal(short(fmt.Sprintf("Merge of %s, %+v and %+v: %+v, %v; wanted none; the schema: %+v", name, a, b, got, ok, x)))
	}
	refusesAll(t, x, name, a, b)
}

// refusesAll asks All for false, and the empty tree beside it.
func refusesAll(t *testing.T, x api.Schema, name string, l ...api.Tree) {
	t.Helper()
	if got, ok := merge.All(x, name, l...); ok || len(got.Slots) > 0 || len(got.Rest) > 0 {
		t.Fatal(short(fmt.Sprintf("All of %s and %+v: %+v, %v; wanted none; the schema: %+v", name, l, got, ok, x)))
	}
}

// joined asks that the bytes of both, one behind the other, are read as that tree.
func joined(t *testing.T, x api.Schema, name string, a, b, want api.Tree) {
	t.Helper()
	first, e := encode.Put(x, name, a)
	second, f := encode.Put(x, name, b)
	if e != api.OK || f != api.OK {
		t.Fatal(short(fmt.Sprintf("Put of %+v: %v; of %+v: %v", a, e, b, f)))
	}
	got, e := decode.Get(x, name, append(first, second...))
	if e != api.OK || !tree.Same(got, want) {
		t.Fatal(short(fmt.Sprintf("Get of the bytes of %+v and %+v: %v, %+v; wanted %+v", a, b, e, got, want)))
	}
}

// both asks Merge for just that tree, and that bytes have it so (P23.2).
func both(t *testing.T, x api.Schema, name string, a, b, want api.Tree) {
	t.Helper()
	merges(t, x, name, a, b, want)
	joined(t, x, name, a, b, want)
}

// P23.1: the chapter's example.
func TestExample(t *testing.T) {
	x := one(api.Field{Name: "a", Num: 1, Type: api.TyInt32, Rep: true})
	both(t, x, "M", of(slot(1, n(5))), of(slot(1, n(7), n(8))), of(slot(1, n(5), n(7), n(8))))
}

// The schema of these tests may be, and their tree has what it should.
func TestGood(t *testing.T) {
	if e := schema.Check(good()); e != api.OK {
		t.Errorf("the schema: %v", e)
	}
	if deep := tree.Deep(full()); deep != 4 || !valid.Tree(good(), "Order", full()) {
		t.Errorf("the tree is %d deep, or no value", deep)
	}
	for ty := api.TyInt32; ty <= api.TyMessage; ty++ {
		x := one(typed(1, ty), in("o", typed(2, ty)), many(typed(3, ty)))
		if e := schema.Check(x); e != api.OK {
			t.Errorf("the schema of type %d: %v", ty, e)
		}
		for _, v := range samples(ty) {
			if !valid.Tree(x, "M", of(slot(2, v), slot(3, v))) {
				t.Errorf("%+v is no value of type %d", v, ty)
			}
		}
	}
}

// P23.1: of a field that is not Rep, in a oneof and in none, of each type but TyMessage: a's value stays, if b has none; else it is b's.
func TestOneValue(t *testing.T) {
	for ty := api.TyInt32; ty < api.TyMessage; ty++ {
		for k, f := range []api.Field{typed(1, ty), in("o", typed(1, ty))} {
			x := one(f, in("o", typed(2, api.TyBool)))
			for _, v := range samples(ty) {
				// A field that is Hidden has not the value 0, or empty.
				if k == 0 && v.N == 0 && v.S == "" {
					continue
				}
				both(t, x, "M", of(slot(1, v)), api.Tree{}, of(slot(1, v)))
				both(t, x, "M", api.Tree{}, of(slot(1, v)), of(slot(1, v)))
				for _, w := range samples(ty) {
					if k > 0 || w.N != 0 || w.S != "" {
						both(t, x, "M", of(slot(1, v)), of(slot(1, w)), of(slot(1, w)))
					}
				}
			}
		}
	}
}

// P23.1: of a field that is Rep, of each type, Loose and not: b's values stand behind a's, each for itself, also if they are alike, and those of messages.
func TestManyValues(t *testing.T) {
	for ty := api.TyInt32; ty <= api.TyMessage; ty++ {
		x := one(many(typed(1, ty)))
		if ty < api.TyString || ty == api.TyEnum {
			x = one(many(typed(1, ty)), loose(typed(2, ty)))
		}
		l := samples(ty)
		lists := [][]api.Val{l, l[:1], l[1:2], {l[1], l[1]}, {l[0], l[1], l[0]}}
		for _, f := range x.Messages[0].Fields {
			for _, v := range lists {
				both(t, x, "M", of(slot(f.Num, v...)), api.Tree{}, of(slot(f.Num, v...)))
				both(t, x, "M", api.Tree{}, of(slot(f.Num, v...)), of(slot(f.Num, v...)))
				for _, w := range lists {
					both(t, x, "M", of(slot(f.Num, v...)), of(slot(f.Num, w...)), of(slot(f.Num, slices.Concat(v, w)...)))
				}
			}
		}
	}
}

// P23.1: of a field of TyMessage that is not Rep: the one that is there alone, or the Merge of both, also of empty ones, in a oneof and in none.
func TestMessages(t *testing.T) {
	none, five, seven := api.Tree{}, of(slot(1, n(5))), of(slot(1, n(7)))
	list := of(slot(4, n(1)))
	left, right := rest(api.Raw{Num: 3, N: 1}), rest(api.Raw{Num: 5}, api.Raw{Num: 3, N: 1})
	for _, f := range []api.Field{typed(1, api.TyMessage), in("o", typed(1, api.TyMessage))} {
		x := one(f, in("o", typed(2, api.TyBool)))
		for _, y := range []api.Tree{none, five, list, left, of(slot(2, m(none))), of(slot(2, m(five)))} {
			both(t, x, "M", of(slot(1, m(y))), none, of(slot(1, m(y))))
			both(t, x, "M", none, of(slot(1, m(y))), of(slot(1, m(y))))
			both(t, x, "M", of(slot(1, m(y))), of(slot(1, m(none))), of(slot(1, m(y))))
			both(t, x, "M", of(slot(1, m(none))), of(slot(1, m(y))), of(slot(1, m(y))))
		}
		for _, y := range [][3]api.Tree{
			{five, seven, seven},
			{list, five, of(slot(1, n(5)), slot(4, n(1)))},
			{list, list, of(slot(4, n(1), n(1)))},
			{left, right, rest(api.Raw{Num: 3, N: 1}, api.Raw{Num: 5}, api.Raw{Num: 3, N: 1})},
			{of(slot(1, n(5)), slot(2, m(five))), of(slot(2, m(list))), of(slot(1, n(5)), slot(2, m(of(slot(1, n(5)), slot(4, n(1))))))},
			{of(slot(2, m(of(slot(2, m(five)))))), of(slot(2, m(of(slot(2, m(seven)))))), of(slot(2, m(of(slot(2, m(seven))))))},
			{of(slot(2, m(of(slot(2, m(left)))))), of(slot(2, m(right))), of(slot(2, m(api.Tree{Slots: []api.Slot{slot(2, m(left))}, Rest: right.Rest})))},
		} {
			both(t, x, "M", of(slot(1, m(y[0]))), of(slot(1, m(y[1]))), of(slot(1, m(y[2]))))
		}
	}
}

// P23.1: messages in messages that both trees have are merged, each as of its own field's message, however deep; those of fields that are Rep are not.
func TestMessagesInMessages(t *testing.T) {
	item := func(l ...api.Slot) api.Tree { return of(slot(8, m(of(l...)))) }
	box := func(l ...api.Slot) api.Tree { return item(slot(3, m(of(l...)))) }
	next := func(l ...api.Slot) api.Tree { return box(slot(1, m(of(l...)))) }
	for _, y := range [][3]api.Tree{
		{item(slot(1, n(3)), slot(12, s("a"))), item(slot(1, n(0)), slot(11, n(1)), slot(12, s("b"))), item(slot(1, n(3), n(0)), slot(11, n(1)), slot(12, s("b")))},
		{item(slot(2, m(rest(api.Raw{Num: 1})))), item(slot(2, m(rest(api.Raw{Num: 2})))), item(slot(2, m(rest(api.Raw{Num: 1}, api.Raw{Num: 2}))))},
		{box(slot(5, n(1)), slot(6, n(1))), box(slot(5, n(2)), slot(6, n(0))), box(slot(5, n(2)), slot(6, n(1), n(0)))},
		{next(slot(1, n(3)), slot(13, s("a"))), next(slot(1, n(3)), slot(2, m(api.Tree{}))), next(slot(1, n(3), n(3)), slot(2, m(api.Tree{})), slot(13, s("a")))},
		// A oneof within: another field of it, of both kinds.
		{next(slot(13, s("a"))), box(slot(3, n(0))), box(slot(3, n(0)))},
		{box(slot(3, n(1))), next(slot(13, s("a"))), next(slot(13, s("a")))},
		{next(slot(13, s("a"))), box(slot(5, n(7))), box(slot(1, m(of(slot(13, s("a"))))), slot(5, n(7)))},
		// Of repeated messages b's stand behind a's as they are.
		{of(slot(4, m(of(slot(11, n(1)))), m(api.Tree{}))), of(slot(4, m(of(slot(12, s("x")))))), of(slot(4, m(of(slot(11, n(1)))), m(api.Tree{}), m(of(slot(12, s("x"))))))},
		{of(slot(4, m(of(slot(11, n(1)))))), of(slot(4, m(of(slot(11, n(1)))))), of(slot(4, m(of(slot(11, n(1)))), m(of(slot(11, n(1))))))},
	} {
		both(t, good(), "Order", y[0], y[1], y[2])
	}
	// A repeated field in messages that are merged, and messages that are merged in those of a repeated field: these are not.
	ring := func(l ...api.Slot) api.Tree { return of(slot(1, m(of(l...)))) }
	five, seven := m(of(slot(1, m(of(slot(2, s("5"))))))), m(of(slot(1, m(of(slot(2, s("7")))))))
	both(t, good(), "Ring", ring(slot(3, five)), ring(slot(3, seven, five)), ring(slot(3, five, seven, five)))
	both(t, good(), "Ring", ring(slot(1, five)), ring(slot(1, seven)), ring(slot(1, seven)))
}

// P23.1: a field of a oneof in b takes all other fields of that away, wherever they stand, and nothing else; the same field is as one of no oneof.
func TestOneofs(t *testing.T) {
	item := func(text string) api.Val { return m(of(slot(12, s(text)))) }
	around := []api.Slot{slot(1, n(5)), slot(4, item("i")), slot(7, n(3)), slot(8, item("s")), slot(9, m(api.Tree{})), slot(10, s("w")), slot(api.MaxNum, n(1))}
	pick := []api.Slot{slot(2, s("")), slot(2, s("text")), slot(6, n(0)), slot(6, n(6)), slot(20000, s("")), slot(20000, s("\xff"))}
	for _, x := range pick {
		a := api.Tree{Slots: laid(around, x), Rest: []api.Raw{{Num: 3}, {Num: 11, N: 2}}}
		both(t, good(), "Order", a, api.Tree{}, a)
		both(t, good(), "Order", api.Tree{}, a, a)
		for _, y := range pick {
			both(t, good(), "Order", of(x), of(y), of(y))
			both(t, good(), "Order", a, of(y), api.Tree{Slots: laid(around, y), Rest: a.Rest})
			both(t, good(), "Order", of(y), of(around...), of(laid(around, y)...))
		}
	}
	// Two oneofs, whose fields stand between one another's, and each of which is there or not.
	x := one(in("o", typed(1, api.TyBool)), in("p", typed(2, api.TyBool)), in("o", typed(3, api.TyMessage)), in("p", typed(4, api.TyMessage)), in("o", typed(5, api.TyString)), in("p", typed(6, api.TyBytes)), typed(7, api.TyBool))
	values := map[int]api.Val{1: n(0), 2: n(1), 3: m(of(slot(4, n(1)))), 4: m(api.Tree{}), 5: s(""), 6: s("b"), 7: n(1)}
	some := func(nums ...int) api.Tree {
		var y api.Tree
		for _, num := range nums {
			if num > 0 {
				y.Slots = append(y.Slots, slot(num, values[num]))
			}
		}
		slices.SortFunc(y.Slots, func(a, b api.Slot) int { return cmp.Compare(a.Num, b.Num) })
		return y
	}
	for i := range 4 * 4 * 4 * 4 {
		o, p, q, r := max(i%4*2-1, 0), i/4%4*2, max(i/16%4*2-1, 0), i/64%4*2
		want := some(cmp.Or(q, o), cmp.Or(r, p), 7)
		if o == 3 && q == 3 {
			// The one of TyMessage is in both, and has a field that is Rep.
			want.Slots = laid(want.Slots, slot(3, m(of(slot(4, n(1), n(1))))))
		}
		both(t, x, "M", some(o, p, 7), some(q, r), want)
		both(t, x, "M", some(o, p), some(q, r, 7), want)
	}
}

// laid is the slots with one more, where its number is to stand, instead of one of that number.
func laid(l []api.Slot, x api.Slot) []api.Slot {
	l = slices.DeleteFunc(slices.Clone(l), func(y api.Slot) bool { return y.Num == x.Num })
	at := slices.IndexFunc(l, func(y api.Slot) bool { return y.Num > x.Num })
	if at < 0 {
		at = len(l)
	}
	return slices.Insert(l, at, x)
}

// P23.1: a oneof's field that another one took away is not there any more: a message that comes later is not merged with it.
func TestTakenAwayIsAway(t *testing.T) {
	x := one(in("o", typed(1, api.TyMessage)), in("o", typed(2, api.TyBool)), in("o", typed(3, api.TyMessage)))
	a, b, c := of(slot(1, m(of(slot(1, n(5)))))), of(slot(2, n(0))), of(slot(1, m(of(slot(4, n(1))))))
	alls(t, x, "M", c, a, b, c)
	alls(t, x, "M", of(slot(1, m(of(slot(1, n(5)), slot(4, n(1)))))), a, c)
	alls(t, x, "M", of(slot(3, m(api.Tree{}))), a, c, of(slot(3, m(api.Tree{}))))
	alls(t, x, "M", c, a, of(slot(3, m(api.Tree{}))), c)
	// So it matters which two are merged first, where a oneof has a message.
	ab, _ := merge.Merge(x, "M", a, b)
	bc, _ := merge.Merge(x, "M", b, c)
	merges(t, x, "M", ab, c, c)
	merges(t, x, "M", a, bc, of(slot(1, m(of(slot(1, n(5)), slot(4, n(1)))))))
}

// P23.1: b's Rest stands behind a's, of every wire type, alike fields among them, in the order that each has.
func TestRest(t *testing.T) {
	l := []api.Raw{{Num: 30, N: 7}, {Num: 3, Wire: api.WireBytes, S: "\xff"}, {Num: 30, N: 7}, {Num: 3}, {Num: 19000, Wire: api.Wire32, N: math.MaxUint32}, {Num: api.MaxNum - 1, Wire: api.Wire64, N: math.MaxUint64}, {Num: 5, Wire: api.WireBytes}}
	for i := range len(l) + 1 {
		both(t, good(), "Order", rest(l[:i]...), rest(l[i:]...), rest(l...))
		both(t, good(), "Order", rest(l[i:]...), rest(l[:i]...), rest(slices.Concat(l[i:], l[:i])...))
		both(t, good(), "Order", rest(l[:i]...), rest(l...), rest(slices.Concat(l[:i], l)...))
		// Slots beside it do not matter, nor a Rest within.
		a := api.Tree{Slots: []api.Slot{slot(1, n(5)), slot(9, m(rest(l[:i]...)))}, Rest: l[i:]}
		b := api.Tree{Slots: []api.Slot{slot(1, n(6)), slot(9, m(rest(l[i:]...)))}, Rest: l[:i]}
		both(t, good(), "Order", a, b, api.Tree{Slots: []api.Slot{slot(1, n(6)), slot(9, m(rest(l...)))}, Rest: slices.Concat(l[i:], l[:i])})
	}
}

// P23.1: fields that are Hidden: what is not there in b takes nothing away, and what is there is there instead of a's.
func TestHidden(t *testing.T) {
	var l []api.Field
	for num := 1; num <= 10; num++ {
		l = append(l, typed(num, num))
	}
	for i, x := range []api.Schema{one(l...), one(typed(1, 11), typed(2, 12), typed(3, 13), typed(4, 14))} {
		var a, b api.Tree
		for _, f := range x.Messages[0].Fields {
			a.Slots = append(a.Slots, slot(f.Num, samples(f.Type)[0]))
			v := samples(f.Type)[len(samples(f.Type))-1]
			if v.N == 0 && v.S == "" {
				v = samples(f.Type)[0]
			}
			b.Slots = append(b.Slots, slot(f.Num, v))
		}
		both(t, x, "M", a, b, b)
		both(t, x, "M", b, a, a)
		for at := range a.Slots {
			both(t, x, "M", a, of(b.Slots[at]), of(laid(a.Slots, b.Slots[at])...))
			both(t, x, "M", of(b.Slots[at]), a, a)
			both(t, x, "M", a, of(b.Slots[:at]...), of(slices.Concat(b.Slots[:at], a.Slots[at:])...))
			// A value that a hidden field has not makes it none of the message's values.
			refuses(t, x, "M", a, of(slot(at+1, n(0))))
			refuses(t, x, "M", of(slot(at+1, s(""))), a)
		}
		if i == 0 && len(a.Slots) != api.MaxFields {
			t.Error("there are too few fields")
		}
	}
}

// P23.1: slots rise, whichever of them stand in a and whichever in b; what is there of a oneof stands at its own place.
func TestOrderOfSlots(t *testing.T) {
	x := full()
	for i := range 1 << len(x.Slots) {
		var a, b api.Tree
		for k, y := range x.Slots {
			if i>>k&1 == 0 {
				a.Slots = append(a.Slots, y)
			} else {
				b.Slots = append(b.Slots, y)
			}
		}
		a.Rest, b.Rest = x.Rest[:i%5], x.Rest[i%5:]
		both(t, good(), "Order", a, b, x)
		a.Rest, b.Rest = x.Rest[i%5:], x.Rest[:i%5]
		both(t, good(), "Order", b, a, api.Tree{Slots: x.Slots, Rest: slices.Concat(x.Rest[:i%5], x.Rest[i%5:])})
	}
}

// P23.1, P23.2: the empty tree, of every message, as a, as b, and as both, nil lists being empty ones.
func TestTheEmptyTree(t *testing.T) {
	empty := api.Tree{Slots: []api.Slot{}, Rest: []api.Raw{}}
	for _, name := range []string{"Order", "Box", "Item", "Note", "Ring"} {
		for _, x := range []api.Tree{{}, empty} {
			both(t, good(), name, x, x, api.Tree{})
			both(t, good(), name, x, rest(api.Raw{Num: 99}), rest(api.Raw{Num: 99}))
			both(t, good(), name, rest(api.Raw{Num: 99}), x, rest(api.Raw{Num: 99}))
			alls(t, good(), name, api.Tree{}, x)
			alls(t, good(), name, api.Tree{}, x, x, x)
		}
	}
	for _, x := range []api.Tree{{}, empty} {
		both(t, good(), "Order", full(), x, full())
		both(t, good(), "Order", x, full(), full())
		alls(t, good(), "Order", full(), x, full(), x, x)
	}
}

// wrongs is trees that are none of Order's values, each for another reason.
func wrongs() []api.Tree {
	l := []api.Tree{
		// Slots of no field, of one that only another message has, and of the numbers of those that Rest may have.
		of(slot(99, n(1))), of(slot(0, n(1))), of(slot(-1, n(1))), of(slot(3, n(1))), of(slot(11, n(1))), of(slot(19000, n(1))), of(slot(math.MaxInt, n(1))),
		// Slots that do not rise.
		of(slot(7, n(1)), slot(1, n(1))), of(slot(1, n(1)), slot(1, n(1))), of(slot(10, s("a")), slot(10, s("b"))),
		// No values, and several of a field that is not Rep.
		of(slot(1)), of(slot(4)), of(slot(10)), of(slot(1, n(1), n(1))), of(slot(9, m(api.Tree{}), m(api.Tree{}))), of(slot(2, s("a"), s("b"))),
		// Values of another type, or out of it.
		of(slot(1, s("a"))), of(slot(2, n(1))), of(slot(4, n(1))), of(slot(9, s("a"))), of(slot(9, m())), of(slot(9, m(api.Tree{}, api.Tree{}))), of(slot(1, m(api.Tree{}))), of(slot(10, m(api.Tree{}))),
		of(slot(1, api.Val{N: 1, S: "a"})), of(slot(6, n(1<<31))), of(slot(7, n(1<<32))), of(slot(2, s("\xff"))), of(slot(10, s("a"), s("\xff"))), of(slot(api.MaxNum, n(1), n(1<<40))),
		// Fields that are hidden.
		of(slot(1, n(0))), of(slot(7, n(0))),
		// Two fields of one oneof, also with others between, and also the same values.
		of(slot(2, s("a")), slot(6, n(1))), of(slot(2, s("")), slot(20000, s(""))), of(slot(1, n(1)), slot(6, n(1)), slot(7, n(1)), slot(20000, s("x"))), of(slot(2, s("")), slot(6, n(0)), slot(20000, s(""))),
		// Fields of Rest that are not right, or known.
		rest(api.Raw{Num: 0}), rest(api.Raw{Num: 3, Wire: 3}), rest(api.Raw{Num: 3, S: "a"}), rest(api.Raw{Num: 3, Wire: api.WireBytes, N: 1}), rest(api.Raw{Num: 3, Wire: api.Wire32, N: 1 << 32}), rest(api.Raw{Num: api.MaxNum + 1}),
		rest(api.Raw{Num: 1}), rest(api.Raw{Num: 3}, api.Raw{Num: 4, Wire: api.WireBytes}), rest(api.Raw{Num: api.MaxNum}),
		// Values of other messages.
		of(slot(12, s("a"))), of(slot(5, n(1))),
	}
	// The same within, of a field that is Rep and of one that is not, and deeper.
	for _, x := range []api.Tree{of(slot(12, s("\xff"))), of(slot(11, n(0))), of(slot(4, n(1))), rest(api.Raw{Num: 12}), rest(api.Raw{Num: 4, Wire: 7}), of(slot(3, m(of(slot(1, m(api.Tree{})), slot(3, n(0)))))), of(slot(3, m(of(slot(1, m(of(slot(11, n(2)))))))))} {
		l = append(l, of(slot(4, m(api.Tree{}), m(x))), of(slot(8, m(x))), of(slot(1, n(5)), slot(8, m(of(slot(3, m(of(slot(1, m(x)))))))), slot(9, m(api.Tree{}))))
	}
	return l
}

// P23.1: a tree that is no value, as a and as b, and as both: there is no Merge, and the empty tree is told; so of All, wherever it stands.
func TestNoValue(t *testing.T) {
	for _, x := range wrongs() {
		if valid.Tree(good(), "Order", x) {
			t.Fatalf("a value: %+v", x)
		}
		for _, y := range []api.Tree{{}, full(), of(slot(1, n(1))), of(slot(8, m(api.Tree{}))), of(slot(6, n(0))), x} {
			refuses(t, good(), "Order", x, y)
			refuses(t, good(), "Order", y, x)
			refusesAll(t, good(), "Order", y, y, x)
			refusesAll(t, good(), "Order", y, x, y)
			refusesAll(t, good(), "Order", x, y, y)
		}
		refusesAll(t, good(), "Order", x)
	}
	// What would be none once it is merged is none.
	refuses(t, good(), "Order", of(slot(9, m(rest(api.Raw{Num: 0})))), of(slot(9, m(api.Tree{}))))
	refuses(t, good(), "Order", of(slot(2, s("\xff"))), of(slot(2, s("a"))))
	refuses(t, good(), "Order", of(slot(2, s("\xff"))), of(slot(6, n(0))))
	refuses(t, good(), "Order", of(slot(7, n(0))), of(slot(7, n(1))))
	refusesAll(t, good(), "Order", api.Tree{}, of(slot(2, s("a")), slot(6, n(1))), of(slot(20000, s("x"))))
}

// P23.1: names that no message has, of Merge, of All of none and of some.
func TestNoMessage(t *testing.T) {
	for _, name := range []string{"", "order", "Orde", "Orders", "Order ", "Color", "id", "Nowhere", "\xff"} {
		refuses(t, good(), name, api.Tree{}, api.Tree{})
		refuses(t, good(), name, full(), full())
		refusesAll(t, good(), name)
		refusesAll(t, good(), name, []api.Tree{}...)
		refusesAll(t, good(), name, api.Tree{})
		refusesAll(t, good(), name, api.Tree{}, full(), api.Tree{})
	}
	// A schema without a message is none that may be; there is none in it, then.
	refuses(t, api.Schema{}, "", api.Tree{}, api.Tree{})
	refusesAll(t, api.Schema{}, "")
	refusesAll(t, api.Schema{}, "Order")
	// The name says which message it is: what is a value of one is none of another.
	both(t, good(), "Item", of(slot(12, s("a"))), of(slot(12, s("b"))), of(slot(12, s("b"))))
	refuses(t, good(), "Order", of(slot(12, s("a"))), of(slot(12, s("b"))))
	both(t, good(), "Item", of(slot(1, n(3))), of(slot(1, n(3))), of(slot(1, n(3), n(3))))
	both(t, good(), "Order", of(slot(1, n(3))), of(slot(1, n(3))), of(slot(1, n(3))))
	both(t, good(), "Note", rest(api.Raw{Num: 1, N: 3}), rest(api.Raw{Num: 1, N: 3}), rest(api.Raw{Num: 1, N: 3}, api.Raw{Num: 1, N: 3}))
}

// P23.1: All of none, of one, of two, of three and of more.
func TestAll(t *testing.T) {
	for _, name := range []string{"Order", "Box", "Item", "Note", "Ring"} {
		alls(t, good(), name, api.Tree{})
		alls(t, good(), name, api.Tree{}, []api.Tree{}...)
	}
	for _, x := range []api.Tree{full(), {}, of(slot(6, n(0))), of(slot(9, m(api.Tree{}))), rest(api.Raw{Num: 3}), of(slot(8, m(of(slot(3, m(api.Tree{})))))), of(slot(10, s(""), s("")))} {
		alls(t, good(), "Order", x, x)
	}
	a := api.Tree{Slots: []api.Slot{slot(1, n(1)), slot(2, s("a")), slot(10, s("a"))}, Rest: []api.Raw{{Num: 3, N: 1}}}
	b := api.Tree{Slots: []api.Slot{slot(6, n(0)), slot(7, n(2)), slot(10, s("b"), s("a"))}, Rest: []api.Raw{{Num: 3, N: 2}}}
	c := api.Tree{Slots: []api.Slot{slot(1, n(3)), slot(8, m(of(slot(1, n(3))))), slot(20000, s("c"))}, Rest: []api.Raw{{Num: 5, N: 3}}}
	d := api.Tree{Slots: []api.Slot{slot(8, m(of(slot(1, n(0)), slot(11, n(1))))), slot(10, s("d"))}}
	alls(t, good(), "Order", api.Tree{Slots: []api.Slot{slot(1, n(1)), slot(6, n(0)), slot(7, n(2)), slot(10, s("a"), s("b"), s("a"))}, Rest: []api.Raw{{Num: 3, N: 1}, {Num: 3, N: 2}}}, a, b)
	alls(t, good(), "Order", api.Tree{Slots: []api.Slot{slot(1, n(1)), slot(2, s("a")), slot(7, n(2)), slot(10, s("b"), s("a"), s("a"))}, Rest: []api.Raw{{Num: 3, N: 2}, {Num: 3, N: 1}}}, b, a)
	alls(t, good(), "Order", api.Tree{Slots: []api.Slot{slot(1, n(3)), slot(7, n(2)), slot(8, m(of(slot(1, n(3))))), slot(10, s("a"), s("b"), s("a")), slot(20000, s("c"))}, Rest: []api.Raw{{Num: 3, N: 1}, {Num: 3, N: 2}, {Num: 5, N: 3}}}, a, b, c)
	alls(t, good(), "Order", api.Tree{Slots: []api.Slot{slot(1, n(3)), slot(7, n(2)), slot(8, m(of(slot(1, n(3), n(0)), slot(11, n(1))))), slot(10, s("a"), s("b"), s("a"), s("d")), slot(20000, s("c"))}, Rest: []api.Raw{{Num: 3, N: 1}, {Num: 3, N: 2}, {Num: 5, N: 3}}}, a, b, c, d)
	// The same one many times.
	alls(t, good(), "Order", api.Tree{Slots: []api.Slot{slot(1, n(1)), slot(2, s("a")), slot(10, slices.Repeat([]api.Val{s("a")}, 50)...)}, Rest: slices.Repeat(a.Rest, 50)}, slices.Repeat([]api.Tree{a}, 50)...)
}

// fieldBy is the message's first field of that number.
func fieldBy(mess *api.Message, num int) *api.Field {
	for i := range mess.Fields {
		if mess.Fields[i].Num == num {
			return &mess.Fields[i]
		}
	}
	return nil
}

// messageBy is the first message of that name.
func messageBy(s api.Schema, name string) *api.Message {
	for i := range s.Messages {
		if s.Messages[i].Name == name {
			return &s.Messages[i]
		}
	}
	return nil
}

// mergeBy is the Merge of two values, by the words of P23.1: what each field of the message has then, one field after the other.
func mergeBy(x api.Schema, name string, a, b api.Tree) api.Tree {
	mess := messageBy(x, name)
	out := api.Tree{Rest: slices.Concat(a.Rest, b.Rest)}
	for _, f := range mess.Fields {
		ahead, l := tree.Get(a, f.Num), tree.Get(b, f.Num)
		for _, g := range mess.Fields {
			if g.One != "" && g.One == f.One && g.Num != f.Num && len(tree.Get(b, g.Num)) > 0 {
				ahead = nil
			}
		}
		switch {
		case len(l) == 0:
			l = ahead
		case f.Rep:
			l = slices.Concat(ahead, l)
		case f.Type == api.TyMessage && len(ahead) > 0:
			l = []api.Val{m(mergeBy(x, f.Ref, ahead[0].M[0], l[0].M[0]))}
		}
		if len(l) > 0 {
			out.Slots = append(out.Slots, slot(f.Num, l...))
		}
	}
	return out
}

// pick is one of those.
func pick[T any](r *rand.Rand, l ...T) T {
	return l[r.Intn(len(l))]
}

// chance is a schema by chance that may be.
func chance(r *rand.Rand) api.Schema {
	names := []string{"A", "B", "C"}
	x := api.Schema{Enums: []api.Enum{{Name: "E", Values: []api.Value{{Name: "x"}}}}}
	for _, name := range names {
		mess := api.Message{Name: name}
		at := 0
		for range r.Intn(11) {
			at += 1 + r.Intn(4)*r.Intn(4)
			f := api.Field{Name: "f" + strconv.Itoa(at), Num: at, Type: 1 + r.Intn(15), Rep: r.Intn(3) == 0}
			if r.Intn(3) == 0 {
				f.Type = api.TyMessage
			}
			switch f.Type {
			case api.TyEnum:
				f.Ref = "E"
			case api.TyMessage:
				f.Ref = pick(r, names...)
			}
			f.Loose = f.Rep && (f.Type < 12 || f.Type == 14) && r.Intn(2) == 0
			if !f.Rep && r.Intn(2) == 0 {
				f.One = pick(r, "o", "p")
			}
			mess.Fields = append(mess.Fields, f)
		}
		x.Messages = append(x.Messages, mess)
	}
	return x
}

// bare is the schema, in which no oneof has a message.
func bare(x api.Schema) api.Schema {
	x = schema.Copy(x)
	for _, mess := range x.Messages {
		for i, f := range mess.Fields {
			if f.Type == api.TyMessage {
				mess.Fields[i].One = ""
			}
		}
	}
	return x
}

// drawVal is a value of the field, which is not 0, nor empty, if it would be hidden.
func drawVal(r *rand.Rand, s api.Schema, f api.Field, deep int) api.Val {
	switch f.Type {
	case api.TyMessage:
		return m(draw(r, s, f.Ref, deep-1))
	case api.TyString, api.TyBytes:
		return api.Val{S: strings.Repeat(pick(r, "a", "é"), 1+r.Intn(3)*r.Intn(5))}
	}
	u := num.From(f.Type, r.Uint64()>>r.Intn(64))
	if u == 0 {
		u = 1
	}
	return n(u)
}

// draw is a value of the message of that name, up to so many messages in one another.
func draw(r *rand.Rand, s api.Schema, name string, deep int) api.Tree {
	var t api.Tree
	mess := messageBy(s, name)
	ones := map[string]int{"": -1000}
	for _, f := range mess.Fields {
		if r.Intn(5) < 2 || deep == 1 && f.Type == api.TyMessage || ones[f.One] > 0 {
			continue
		}
		ones[f.One]++
		x := slot(f.Num, drawVal(r, s, f, deep))
		for f.Rep && r.Intn(3) > 0 {
			v := drawVal(r, s, f, deep)
			if f.Type != api.TyMessage && r.Intn(3) == 0 {
				v = api.Val{}
			}
			x.Vals = append(x.Vals, v)
		}
		if f.One != "" && f.Type != api.TyMessage && r.Intn(2) == 0 {
			x.Vals[0] = api.Val{}
		}
		t.Slots = append(t.Slots, x)
	}
	for range r.Intn(3) {
		x := api.Raw{Num: 1 + r.Intn(80), Wire: pick(r, 0, 1, 2, 5), N: uint64(r.Uint32())}
		if x.Wire == api.WireBytes {
			x.N, x.S = 0, pick(r, "", "a", "\xff", "\x08\x01")
		}
		if fieldBy(mess, x.Num) == nil {
			t.Rest = append(t.Rest, x)
		}
	}
	return t
}

// world is a schema by chance, and the name of a message that it has.
func world(r *rand.Rand) (api.Schema, string) {
	if r.Intn(3) == 0 {
		return good(), pick(r, "Order", "Item", "Box", "Ring")
	}
	return chance(r), pick(r, "A", "B", "C")
}

// behind asks that the bytes of the trees, one behind the other, are read as that tree, and tells whether they are as few as a value may have.
func behind(t *testing.T, x api.Schema, name string, want api.Tree, l ...api.Tree) bool {
	t.Helper()
	var bytes []byte
	for _, y := range l {
		b, e := encode.Put(x, name, y)
		if e != api.OK {
			return false
		}
		bytes = append(bytes, b...)
	}
	got, e := decode.Get(x, name, bytes)
	if e == api.ErrLong {
		return false
	}
	if e != api.OK || !tree.Same(got, want) {
		t.Fatal(short(fmt.Sprintf("Get of the bytes of %+v: %v, %+v; wanted %+v; the schema: %+v", l, e, got, want, x)))
	}
	return true
}

// P23.1: values by chance, of schemas by chance, by the words. P23.2: their bytes, one behind the other, are read as their Merge; it is a value; the empty tree changes nothing.
func TestByTheWords(t *testing.T) {
	r := rand.New(rand.NewSource(23))
	read, unlike := 0, 0
	for range 10000 {
		x, name := world(r)
		if e := schema.Check(x); e != api.OK {
			t.Fatal(e, x)
		}
		a, b := draw(r, x, name, 1+r.Intn(4)), draw(r, x, name, 1+r.Intn(4))
		want := mergeBy(x, name, a, b)
		merges(t, x, name, a, b, want)
		merges(t, x, name, a, api.Tree{}, a)
		merges(t, x, name, api.Tree{}, b, b)
		if behind(t, x, name, want, a, b) {
			read++
		}
		if !tree.Same(want, a) && !tree.Same(want, b) {
			unlike++
		}
	}
	if read < 7500 || unlike < 5000 {
		t.Errorf("the material is poor: %d were read, %d were unlike both", read, unlike)
	}
}

// P23.2: All is one Merge after the other, and reads as all bytes, one behind the other; a tree that is no value spoils it, wherever it stands.
func TestAllByTheWords(t *testing.T) {
	r := rand.New(rand.NewSource(231))
	for range 5000 {
		x, name := world(r)
		var l []api.Tree
		var byWords, byMerge api.Tree
		for range r.Intn(6) {
			y := draw(r, x, name, 1+r.Intn(3))
			l, byWords = append(l, y), mergeBy(x, name, byWords, y)
			byMerge, _ = merge.Merge(x, name, byMerge, y)
		}
		alls(t, x, name, byWords, l...)
		alls(t, x, name, byMerge, l...)
		behind(t, x, name, byWords, l...)
		refusesAll(t, x, name, slices.Insert(l, r.Intn(len(l)+1), rest(api.Raw{}))...)
		refusesAll(t, x, name+"x", l...)
	}
}

// P23.2: it does not matter which two of three are merged first, if no oneof has a message.
func TestThreeOfThem(t *testing.T) {
	r := rand.New(rand.NewSource(232))
	matters := 0
	for range 10000 {
		x, name := world(r)
		// Where a oneof has one, it may matter.
		plain := r.Intn(4) > 0
		if plain {
			x = bare(x)
		}
		if e := schema.Check(x); e != api.OK {
			t.Fatal(e, x)
		}
		var l [3]api.Tree
		for i := range l {
			l[i] = draw(r, x, name, 1+r.Intn(4))
		}
		ab, _ := merge.Merge(x, name, l[0], l[1])
		bc, _ := merge.Merge(x, name, l[1], l[2])
		first, ok := merge.Merge(x, name, ab, l[2])
		last, right := merge.Merge(x, name, l[0], bc)
		if !ok || !right || plain && !tree.Same(first, last) {
			t.Fatal(short(fmt.Sprintf("of %+v: %+v and %+v, %v and %v; the schema: %+v", l, first, last, ok, right, x)))
		}
		alls(t, x, name, first, l[:]...)
		if !tree.Same(first, last) {
			matters++
		}
	}
	if matters < 10 {
		t.Errorf("the material is poor: it mattered %d times", matters)
	}
}

// small is all small values of M in a schema with a field of each kind; by plain no oneof has a message.
func small(plain bool) (api.Schema, []api.Tree) {
	last := in("o", typed(6, api.TyMessage))
	if plain {
		last.One = ""
	}
	x := one(typed(1, api.TyInt32), many(typed(2, api.TyBool)), typed(3, api.TyMessage), in("o", typed(5, api.TyBytes)), last)
	five := of(slot(1, n(5)))
	l := []api.Tree{{}}
	for _, y := range [][]api.Slot{
		{slot(1, n(1)), slot(1, n(2))},
		{slot(2, n(0)), slot(2, n(1), n(0))},
		{slot(3, m(api.Tree{})), slot(3, m(five)), slot(3, m(of(slot(4, n(1)))))},
		{slot(5, s("")), slot(6, m(five)), slot(6, m(of(slot(4, n(1)))))},
	} {
		for _, z := range l {
			for _, more := range y {
				l = append(l, of(append(slices.Clone(z.Slots), more)...))
			}
		}
	}
	for _, z := range slices.Clone(l)[:20] {
		l = append(l, api.Tree{Slots: z.Slots, Rest: []api.Raw{{Num: 9, N: uint64(len(l))}}})
	}
	return x, l
}

// P23.1, P23.2: all pairs of small values, by the words, and by their bytes.
func TestSmallValues(t *testing.T) {
	for _, plain := range []bool{true, false} {
		x, l := small(plain)
		if len(l) < 150 {
			t.Fatalf("there are no more than %d values", len(l))
		}
		for _, a := range l {
			for _, b := range l {
				both(t, x, "M", a, b, mergeBy(x, "M", a, b))
			}
		}
	}
}

// P23.2: all triples of some small values, both ways round.
func TestSmallTriples(t *testing.T) {
	x, all := small(true)
	var l []api.Tree
	for i := 0; i < len(all); i += 5 {
		l = append(l, all[i])
	}
	for _, a := range l {
		for _, b := range l {
			ab, _ := merge.Merge(x, "M", a, b)
			for _, c := range l {
				bc, _ := merge.Merge(x, "M", b, c)
				first, _ := merge.Merge(x, "M", ab, c)
				last, _ := merge.Merge(x, "M", a, bc)
				if !tree.Same(first, last) {
					t.Fatalf("of %+v, %+v, %+v: %+v and %+v", a, b, c, first, last)
				}
			}
		}
	}
}

// P23.2: the full value, cut in two behind each field of its bytes: both pieces merged are it.
func TestCutInTwo(t *testing.T) {
	b, e := encode.Put(good(), "Order", full())
	if e != api.OK {
		t.Fatal(e)
	}
	cuts := 0
	for at := range len(b) + 1 {
		x, e := decode.Get(good(), "Order", b[:at])
		y, f := decode.Get(good(), "Order", b[at:])
		if e == api.OK && f == api.OK && decodes(b[:at], b[at:]) {
			cuts++
			merges(t, good(), "Order", x, y, full())
		}
	}
	if cuts < 12 {
		t.Errorf("there were no more than %d cuts", cuts)
	}
}

// decodes tells whether the first piece ends where a field of all of it does: what the two are put as is as long as they are, then.
func decodes(a, b []byte) bool {
	x, _ := decode.Get(good(), "Order", a)
	y, _ := decode.Get(good(), "Order", b)
	first, _ := encode.Put(good(), "Order", x)
	second, _ := encode.Put(good(), "Order", y)
	return string(first) == string(a) && string(second) == string(b)
}

// nest is a tree of Ring that is so deep, by the field of that number.
func nest(num, deep int, inner api.Tree) api.Tree {
	for range deep - 1 {
		inner = of(slot(num, m(inner)))
	}
	return inner
}

// P23.1: how deep a value may be, and how many bytes it may have, does not matter here: what Put refuses is merged.
func TestNoLimits(t *testing.T) {
	a, b := of(slot(4, n(1))), of(slot(2, s("x")), slot(4, n(0)))
	for _, deep := range []int{1, 2, 15, 16, 17, 40} {
		merges(t, good(), "Ring", nest(1, deep, a), nest(1, deep, b), nest(1, deep, of(slot(2, s("x")), slot(4, n(1), n(0)))))
		merges(t, good(), "Ring", nest(3, deep+1, a), nest(3, deep+1, b), of(slot(3, m(nest(3, deep, a)), m(nest(3, deep, b)))))
		merges(t, good(), "Ring", nest(1, deep, a), nest(1, deep+1, b), nest(1, deep, of(slot(1, m(b)), slot(4, n(1)))))
	}
	big := strings.Repeat("a", api.MaxBytes+1)
	merges(t, good(), "Ring", of(slot(2, s(big))), of(slot(6, s(big))), of(slot(2, s(big)), slot(6, s(big))))
	merges(t, good(), "Ring", of(slot(2, s(big))), of(slot(2, s("b"))), of(slot(2, s("b"))))
}

// room is where a list or a text is, with the room behind it.
type room struct {
	from, to uintptr
	text     bool
}

// listRoom is where the list is; of a list without room nothing.
func listRoom[T any](l []T) []room {
	if cap(l) == 0 {
		return nil
	}
	var x T
	p := uintptr(unsafe.Pointer(unsafe.SliceData(l)))
	return []room{{from: p, to: p + uintptr(cap(l))*unsafe.Sizeof(x)}}
}

// textRoom is where the text is.
func textRoom(s string) []room {
	if s == "" {
		return nil
	}
	p := uintptr(unsafe.Pointer(unsafe.StringData(s)))
	return []room{{p, p + uintptr(len(s)), true}}
}

// rooms is where all lists and texts of the trees are.
func rooms(trees ...api.Tree) []room {
	var l []room
	for _, t := range trees {
		l = slices.Concat(l, listRoom(t.Slots), listRoom(t.Rest))
		for _, x := range t.Rest {
			l = append(l, textRoom(x.S)...)
		}
		for _, x := range t.Slots {
			l = append(l, listRoom(x.Vals)...)
			for _, v := range x.Vals {
				l = slices.Concat(l, textRoom(v.S), listRoom(v.M), rooms(v.M...))
			}
		}
	}
	return l
}

// apart asks that no list of the answer shares anything with another one of it, and nothing of it with what was handed in.
func apart(t *testing.T, what string, answer, in []room) {
	t.Helper()
	for i, a := range answer {
		for _, b := range in {
			if a.from < b.to && b.from < a.to {
				t.Fatalf("%s shares something with what was handed in", what)
			}
		}
		for _, b := range answer[:i] {
			if !a.text && !b.text && a.from < b.to && b.from < a.to {
				t.Fatalf("two lists of %s share something", what)
			}
		}
	}
}

// roomy is the tree with room behind each list, in which something stands that must stay.
func roomy(t api.Tree) api.Tree {
	out := api.Tree{Slots: []api.Slot{}, Rest: append(slices.Clone(t.Rest), api.Raw{S: "behind"})[:len(t.Rest)]}
	for _, x := range t.Slots {
		vals := []api.Val{}
		for _, v := range x.Vals {
			trees := []api.Tree{}
			for _, inner := range v.M {
				trees = append(trees, roomy(inner))
			}
			vals = append(vals, api.Val{N: v.N, S: v.S, M: append(trees, rest(api.Raw{S: "behind"}))[:len(v.M)]})
		}
		out.Slots = append(out.Slots, slot(x.Num, append(vals, s("behind"))[:len(x.Vals)]...))
	}
	out.Slots = append(out.Slots, slot(-77), slot(-78))[:len(t.Slots)]
	return out
}

// opened is the tree with all that stands in its lists' room.
func opened(t api.Tree) api.Tree {
	out := api.Tree{Rest: t.Rest[:cap(t.Rest)]}
	for _, x := range t.Slots[:cap(t.Slots)] {
		var vals []api.Val
		for _, v := range x.Vals[:cap(x.Vals)] {
			var trees []api.Tree
			for _, inner := range v.M[:cap(v.M)] {
				trees = append(trees, opened(inner))
			}
			vals = append(vals, api.Val{N: v.N, S: v.S, M: trees})
		}
		out.Slots = append(out.Slots, slot(x.Num, vals...))
	}
	return out
}

// untouched asks that what is handed in is as it was, also in its lists' room, and that an answer is apart from it.
func untouched(t *testing.T, x api.Schema, name string, l ...api.Tree) {
	t.Helper()
	told := func() string {
		out := fmt.Sprintf("%#v", x)
		for _, y := range l {
			out += fmt.Sprintf("%#v", opened(y))
		}
		return out
	}
	was := told()
	all, _ := merge.All(x, name, l...)
	apart(t, "All", rooms(all), rooms(l...))
	for _, a := range l {
		for _, b := range l {
			got, _ := merge.Merge(x, name, a, b)
			apart(t, "Merge", rooms(got), rooms(l...))
		}
	}
	if now := told(); now != was {
		t.Fatal("changed: " + short(now) + "; it was " + short(was))
	}
	runtime.KeepAlive(l)
}

// Rule 3: nothing that is handed in is changed, also not in the room behind a list, and answers share nothing with it, nor their lists with one another.
func TestNothingIsSharedOrChanged(t *testing.T) {
	x := full()
	untouched(t, good(), "Order", x, full(), roomy(x), api.Tree{}, roomy(full()))
	untouched(t, good(), "Order", x)
	untouched(t, good(), "Order", api.Tree{}, x)
	// The same one several times, and what stands in several places of it.
	untouched(t, good(), "Order", x, x, x)
	item := m(of(slot(1, n(3)), slot(3, m(of(slot(6, n(1), n(2))))), slot(12, s("a"))))
	shared := of(slot(4, item, item), slot(8, item))
	if !valid.Tree(good(), "Order", shared) {
		t.Fatal("no value")
	}
	untouched(t, good(), "Order", shared, shared, roomy(shared))
	// What is refused, and what is taken away.
	untouched(t, good(), "Order", append(wrongs(), roomy(x))...)
	untouched(t, good(), "Order", roomy(of(slot(2, s("a")))), roomy(of(slot(6, n(1)))), roomy(of(slot(20000, s("b")))))
	r := rand.New(rand.NewSource(233))
	for range 1000 {
		x, name := world(r)
		var l []api.Tree
		for range 1 + r.Intn(3) {
			l = append(l, roomy(draw(r, x, name, 1+r.Intn(3))))
		}
		untouched(t, x, name, l...)
	}
}

// spoil changes all that the tree's lists hold, and what stands behind them in their room.
func spoil(t api.Tree) {
	for _, x := range t.Slots {
		for _, v := range x.Vals {
			for _, inner := range v.M {
				spoil(inner)
			}
			clear(v.M[:cap(v.M)])
		}
		vals := x.Vals[:cap(x.Vals)]
		for i := range vals {
			vals[i] = s("spoilt")
		}
	}
	slots, fields := t.Slots[:cap(t.Slots)], t.Rest[:cap(t.Rest)]
	for i := range slots {
		slots[i] = slot(-7, s("spoilt"))
	}
	for i := range fields {
		fields[i] = api.Raw{Num: -7}
	}
}

// Rule 3: what becomes of an answer changes nothing that is handed in, nor another answer, nor the other way round.
func TestAnswersAreNew(t *testing.T) {
	a, b := full(), full()
	want := mergeBy(good(), "Order", full(), full())
	first, _ := merge.Merge(good(), "Order", a, b)
	second, _ := merge.Merge(good(), "Order", a, b)
	all, _ := merge.All(good(), "Order", a, b)
	alone, _ := merge.All(good(), "Order", a)
	spoil(first)
	merges(t, good(), "Order", a, b, want)
	spoil(a)
	spoil(b)
	for i, x := range []api.Tree{second, all} {
		if !tree.Same(x, want) {
			t.Errorf("the answer %d is changed: %s", i, short(fmt.Sprintf("%+v", x)))
		}
		spoil(x)
	}
	if !tree.Same(alone, full()) {
		t.Error("the answer of one is changed")
	}
	// A list of trees that is handed in stays as it is.
	l := []api.Tree{full(), full(), rest(api.Raw{Num: 3})}
	merge.All(good(), "Order", l[:2]...)
	if !tree.Same(l[0], full()) || !tree.Same(l[1], full()) || !tree.Same(l[2], rest(api.Raw{Num: 3})) {
		t.Error("the list is changed")
	}
}

// Rule 4: what is answered hangs on what is handed in alone: not on what was asked ahead of it, nor on what is asked meanwhile.
func TestNothingIsKept(t *testing.T) {
	x, a, b := good(), full(), full()
	want := mergeBy(x, "Order", a, b)
	wrong := of(slot(2, s("a")), slot(6, n(1)))
	var all sync.WaitGroup
	for range 8 {
		all.Go(func() {
			for range 100 {
				got, ok := merge.Merge(x, "Order", a, b)
				_, no := merge.Merge(x, "Order", a, wrong)
				more, too := merge.All(x, "Order", api.Tree{}, a, b)
				if !ok || no || !too || !tree.Same(got, want) || !tree.Same(more, want) {
					t.Error("not the same once more")
				}
			}
		})
	}
	all.Wait()
	// What is changed between two calls is read anew.
	x, a, b = one(typed(1, api.TyInt32), typed(2, api.TyInt32)), of(slot(1, n(5))), of(slot(2, n(6)))
	merges(t, x, "M", a, b, of(slot(1, n(5)), slot(2, n(6))))
	x.Messages[0].Fields[0].One, x.Messages[0].Fields[1].One = "o", "o"
	merges(t, x, "M", a, b, of(slot(2, n(6))))
	a.Slots[0].Num = 2
	merges(t, x, "M", a, b, of(slot(2, n(6))))
	x.Messages[0].Fields[1] = many(typed(2, api.TyInt32))
	merges(t, x, "M", a, b, of(slot(2, n(5), n(6))))
}

// Of schemas that may not be all calls end, too.
func TestSchemasThatMayNotBe(t *testing.T) {
	for _, f := range []api.Field{typed(0, api.TyMessage), typed(-1, api.TyInt32), typed(api.MaxNum+1, api.TyString), many(typed(math.MinInt, api.TyBool)), loose(typed(math.MaxInt, api.TyFixed32)), in("o", many(typed(1, api.TyMessage))), {Num: 1, Type: api.TyMessage, Ref: "Nowhere"}, {Num: 1}, {Num: 1, Type: 16}} {
		for _, v := range []api.Val{n(1), s("a"), m(api.Tree{}), m(of(slot(1, n(1)))), {}} {
			for _, x := range []api.Schema{one(f), one(f, f), one(f, in("o", typed(f.Num, api.TyInt32)), in("o", typed(9, api.TyBool)))} {
				for _, y := range []api.Tree{of(slot(f.Num, v)), of(slot(f.Num, v, v)), of(slot(9, n(1)))} {
					merge.Merge(x, "M", of(slot(f.Num, v)), y)
					merge.Merge(x, "M", y, y)
					merge.All(x, "M", y, y, of(slot(9, n(0))), y)
				}
			}
		}
	}
}

// Limits: 2^16 trees nested in one another, and very many things beside one another: all calls end, in time.
func TestMuch(t *testing.T) {
	const deep = 1 << 16
	a, b := of(slot(4, n(1))), of(slot(4, n(0)))
	merges(t, good(), "Ring", nest(1, deep, a), nest(1, deep, b), nest(1, deep, of(slot(4, n(1), n(0)))))
	refuses(t, good(), "Ring", nest(1, deep, a), nest(1, deep, rest(api.Raw{})))
	const much = 1 << 19
	text := strings.Repeat("a", much)
	// It would be very much to copy what is refused.
	refuses(t, good(), "Ring", of(slot(6, slices.Repeat([]api.Val{s(text)}, much)...)), rest(api.Raw{}))
	lists := of(slot(4, slices.Repeat([]api.Val{n(1)}, much)...), slot(6, slices.Repeat([]api.Val{s("a")}, much)...))
	merges(t, good(), "Ring", lists, lists, of(slot(4, slices.Repeat([]api.Val{n(1)}, 2*much)...), slot(6, slices.Repeat([]api.Val{s("a")}, 2*much)...)))
	// Very many trees, one after the other: to copy for each of them what was laid would be very much, too.
	fields := []api.Raw{{Num: 9}}
	x := api.Tree{Slots: []api.Slot{slot(1, m(a)), slot(2, s("x")), slot(3, m(a)), slot(4, n(1))}, Rest: fields}
	const trees = 1 << 16
	want := api.Tree{Slots: []api.Slot{slot(1, m(of(slot(4, slices.Repeat([]api.Val{n(1)}, trees)...)))), slot(2, s("x")), slot(3, slices.Repeat([]api.Val{m(a)}, trees)...), slot(4, slices.Repeat([]api.Val{n(1)}, trees)...)}, Rest: slices.Repeat(fields, trees)}
	alls(t, good(), "Ring", want, slices.Repeat([]api.Tree{x}, trees)...)
	refusesAll(t, good(), "Ring", append(slices.Repeat([]api.Tree{x}, trees), rest(api.Raw{}))...)
	var taken []api.Tree
	for range trees {
		taken = append(taken, of(slot(2, s("a"))), of(slot(6, n(1))), of(slot(8, m(of(slot(1, n(1)))))))
	}
	alls(t, good(), "Order", of(slot(6, n(1)), slot(8, m(of(slot(1, slices.Repeat([]api.Val{n(1)}, trees)...))))), taken...)
}
