package find_test

import (
	"fmt"
	"math"
	"math/rand"
	"reflect"
	"slices"
	"strconv"
	"strings"
	"testing"
	"unsafe"

	"ecdysis/api"
	"ecdysis/find"
	"ecdysis/schema"
)

// good is a schema that may be: names that enums, messages, values, fields and oneofs share; a oneof whose fields do not stand side by side, and the same one in another message; references in a chain, in a ring, and to itself; a message that cannot be reached. It is made anew each time.
func good() api.Schema {
	return api.Schema{
		Enums: []api.Enum{
			{Name: "Color", Values: []api.Value{{Name: "red"}, {Name: "Order", Num: 3}}},
			{Name: "Size", Values: []api.Value{{Name: "red"}}},
			{Name: "Unused", Values: []api.Value{{Name: "Color"}}},
		},
		Messages: []api.Message{
			{Name: "Order", Fields: []api.Field{
				{Name: "id", Num: 1, Type: api.TyUint64},
				{Name: "text", Num: 2, Type: api.TyString, One: "pick"},
				{Name: "item", Num: 4, Type: api.TyMessage, Ref: "Item", Rep: true},
				{Name: "amount", Num: 6, Type: api.TySint32, One: "pick"},
				{Name: "color", Num: 7, Type: api.TyEnum, Ref: "Color"},
				{Name: "spare", Num: 8, Type: api.TyMessage, Ref: "Item", One: "other"},
				{Name: "Order", Num: 20000, Type: api.TyBytes, One: "pick"},
				{Name: "last", Num: api.MaxNum, Type: api.TyInt32, Rep: true, Loose: true},
			}, Barred: []int{3, 5, 19000}},
			{Name: "Apart", Fields: []api.Field{
				{Name: "id", Num: 3, Type: api.TyMessage, Ref: "Apart"},
				{Name: "up", Num: 4, Type: api.TyMessage, Ref: "Order"},
			}},
			{Name: "Box", Fields: []api.Field{{Name: "next", Num: 1, Type: api.TyMessage, Ref: "Item", One: "pick"}}, Barred: []int{1 << 20, api.MaxNum}},
			{Name: "Item", Fields: []api.Field{
				{Name: "size", Num: 1, Type: api.TyEnum, Ref: "Size", Rep: true},
				{Name: "note", Num: 2, Type: api.TyMessage, Ref: "Note"},
				{Name: "box", Num: 3, Type: api.TyMessage, Ref: "Box"},
			}},
			{Name: "Note"},
		},
	}
}

// message is a message of that name, with a field of each of those messages.
func message(name string, refs ...string) api.Message {
	m := api.Message{Name: name}
	for i, ref := range refs {
		m.Fields = append(m.Fields, api.Field{Name: "f" + strconv.Itoa(i), Num: 1 + i, Type: api.TyMessage, Ref: ref})
	}
	return m
}

// of is a schema of those messages.
func of(l ...api.Message) api.Schema {
	return api.Schema{Messages: l}
}

// first is the least place of those at which it is so, by the words of P16.1; -1, if it is so at none.
func first(n int, so func(int) bool) int {
	place := -1
	for i := n - 1; i >= 0; i-- {
		if so(i) {
			place = i
		}
	}
	return place
}

// members is what Members has to answer, by the words of P16.1.
func members(m api.Message, one string) []int {
	var l []int
	for _, f := range m.Fields {
		if one != "" && f.One == one {
			l = append(l, f.Num)
		}
	}
	return l
}

// uses is what Uses has to answer, by the words of P16.1.
func uses(s api.Schema, name string) int {
	n := 0
	for _, m := range s.Messages {
		for _, f := range m.Fields {
			if f.Type == 15 && f.Ref == name {
				n++
			}
		}
	}
	return n
}

// free is what Free has to answer, by the words of P16.1.
func free(m api.Message, num int) bool {
	is := 1 <= num && num < 19000 || 20000 <= num && num <= 1<<29-1
	for _, f := range m.Fields {
		is = is && f.Num != num
	}
	for _, b := range m.Barred {
		is = is && b != num
	}
	return is
}

// kin is what Kin has to tell, by the words of P16.2, each message looked for from the first one on.
func kin(s api.Schema) []string {
	if len(s.Messages) == 0 {
		return nil
	}
	l := []string{s.Messages[0].Name}
	for i := 0; i < len(l); i++ {
		at := first(len(s.Messages), func(k int) bool { return s.Messages[k].Name == l[i] })
		for _, f := range s.Messages[at].Fields {
			is := func(m api.Message) bool { return m.Name == f.Ref }
			if f.Type == 15 && slices.ContainsFunc(s.Messages, is) && !slices.Contains(l, f.Ref) {
				l = append(l, f.Ref)
			}
		}
	}
	return l
}

// told is the schema, as a failed test tells it: not all of a very great one.
func told(x any) string {
	if s := fmt.Sprintf("%#v", x); len(s) < 5000 {
		return s
	}
	return "something very great"
}

// is tells of an answer that is another one.
func is[T comparable](t *testing.T, what string, got, want T) {
	t.Helper()
	if got != want {
		t.Errorf("%s: %v; wanted %v", what, got, want)
	}
}

// are tells of a list that is another one.
func are[T comparable](t *testing.T, what string, got []T, want ...T) {
	t.Helper()
	if !slices.Equal(got, want) {
		t.Errorf("%s: %v; wanted %v", what, got, want)
	}
}

// tells tells if Kin tells something else, also if it is stopped anywhere, and if it is gone through again.
func tells(t *testing.T, s api.Schema, want ...string) {
	t.Helper()
	seq := find.Kin(s)
	for range 2 {
		if l := slices.Collect(seq); !slices.Equal(l, want) {
			t.Fatalf("Kin of %s: %q; wanted %q", told(s), l, want)
		}
	}
	for most := range min(len(want), 20) {
		if l := upTo(seq, most+1); !slices.Equal(l, want[:most+1]) {
			t.Fatalf("Kin of %s, stopped behind %d: %q; wanted %q", told(s), most+1, l, want)
		}
	}
}

// upTo is what is told till it is told to stop at the name of that count; if it goes on then, the Go language panics.
func upTo(seq func(func(string) bool), most int) []string {
	var l []string
	for name := range seq {
		l = append(l, name)
		if len(l) == most {
			break
		}
	}
	return l
}

// P16.1, P16.2: the chapter's example.
func TestExample(t *testing.T) {
	s := of(message("M", "M"))
	tells(t, s, "M")
	is(t, "Uses of M", find.Uses(s, "M"), 1)
}

// The schema that most tests take is one that may be.
func TestGood(t *testing.T) {
	is(t, "Check", schema.Check(good()), api.OK)
}

// P16.1
func TestMessage(t *testing.T) {
	s := good()
	for at, name := range []string{"Order", "Apart", "Box", "Item", "Note"} {
		is(t, name, find.Message(s, name), at)
	}
	// Names that only an enum, a value, a field or a oneof has, parts of names, other letters, and none at all.
	for _, name := range []string{"Color", "Size", "Unused", "red", "id", "pick", "Orde", "Orders", "order", "NOTE", "", " Order", "Order\x00", "no"} {
		is(t, name, find.Message(s, name), -1)
	}
}

// P16.1
func TestEnum(t *testing.T) {
	s := good()
	for at, name := range []string{"Color", "Size", "Unused"} {
		is(t, name, find.Enum(s, name), at)
	}
	for _, name := range []string{"Order", "Apart", "Box", "Item", "Note", "red", "id", "pick", "Colo", "Colors", "color", "SIZE", "", "Size "} {
		is(t, name, find.Enum(s, name), -1)
	}
}

// P16.1
func TestField(t *testing.T) {
	m := good().Messages[0]
	for at, name := range []string{"id", "text", "item", "amount", "color", "spare", "Order", "last"} {
		is(t, name, find.Field(m, name), at)
	}
	// What is a oneof's, a reference's, or another message's field's is no field's name.
	for _, name := range []string{"pick", "other", "Item", "Color", "size", "up", "Id", "i", "idd", "", "7"} {
		is(t, name, find.Field(m, name), -1)
	}
	is(t, "of a message without fields", find.Field(good().Messages[4], "id"), -1)
}

// P16.1
func TestNumber(t *testing.T) {
	m := good().Messages[0]
	for at, num := range []int{1, 2, 4, 6, 7, 8, 20000, api.MaxNum} {
		is(t, strconv.Itoa(num), find.Number(m, num), at)
	}
	// Barred numbers, those that are a place, and those that are the same but for bits that a shorter number has not.
	for _, num := range []int{0, 3, 5, 19000, 9, -1, -2, 19999, 20001, api.MaxNum + 1, 1 + 1<<32, 1<<32 + api.MaxNum, math.MinInt + 1, math.MinInt, math.MaxInt} {
		is(t, strconv.Itoa(num), find.Number(m, num), -1)
	}
	is(t, "of a message without fields", find.Number(good().Messages[4], 1), -1)
}

// P16.1: what is there twice, or more often, is at its first place; the first and the last place.
func TestTheFirstOne(t *testing.T) {
	names := []string{"b", "a", "b", "c", "a", "b", "c"}
	var s api.Schema
	var m api.Message
	for i, name := range names {
		s.Enums = append(s.Enums, api.Enum{Name: name, Values: make([]api.Value, i)})
		s.Messages = append(s.Messages, message(name, "b"))
		m.Fields = append(m.Fields, api.Field{Name: name, Num: int(name[0]), Type: i})
	}
	for name, at := range map[string]int{"b": 0, "a": 1, "c": 3, "d": -1} {
		is(t, "Message of "+name, find.Message(s, name), at)
		is(t, "Enum of "+name, find.Enum(s, name), at)
		is(t, "Field of "+name, find.Field(m, name), at)
		is(t, "Number of "+name, find.Number(m, int(name[0])), at)
	}
	for n := range 5 {
		var l []string
		for i := range n {
			l = append(l, "n"+strconv.Itoa(i))
		}
		s, m := api.Schema{}, api.Message{}
		for i, name := range l {
			s.Enums, s.Messages = append(s.Enums, api.Enum{Name: name}), append(s.Messages, api.Message{Name: name})
			m.Fields = append(m.Fields, api.Field{Name: name, Num: 5 * i})
		}
		for i, name := range l {
			is(t, name, find.Message(s, name), i)
			is(t, name, find.Enum(s, name), i)
			is(t, name, find.Field(m, name), i)
			is(t, name, find.Number(m, 5*i), i)
		}
	}
}

// P16.1
func TestMembers(t *testing.T) {
	s := good()
	are(t, "side by side or not", find.Members(s.Messages[0], "pick"), 2, 6, 20000)
	are(t, "one alone", find.Members(s.Messages[0], "other"), 8)
	are(t, "of another message", find.Members(s.Messages[2], "pick"), 1)
	// The empty text, names of fields, references and messages, parts of a name, and names that nothing has.
	for _, one := range []string{"", "id", "text", "Item", "Order", "pic", "picks", "Pick", "no", "pick\x00"} {
		are(t, one, find.Members(s.Messages[0], one))
		are(t, one, find.Members(s.Messages[4], one))
	}
}

// P16.1: the numbers come in the fields' order, also where they do not rise, are there twice, or are no field's.
func TestMembersInTheirOrder(t *testing.T) {
	m := api.Message{Fields: []api.Field{
		{Name: "a", Num: 9, One: "o"}, {Name: "b", Num: 1, One: "o"}, {Name: "c", Num: 4}, {Name: "d", Num: 9, One: "o"},
		{Name: "e", Num: -3, One: "p"}, {Name: "a", Num: 0, One: "o"}, {Name: "f", Num: math.MinInt, One: "o", Rep: true},
	}, Barred: []int{9}}
	are(t, "o", find.Members(m, "o"), 9, 1, 9, 0, math.MinInt)
	are(t, "p", find.Members(m, "p"), -3)
	are(t, "the empty text", find.Members(m, ""))
}

// P16.1
func TestUses(t *testing.T) {
	s := good()
	// Named by nobody but itself; by another one; twice by one and by another one, too.
	for name, n := range map[string]int{"Order": 1, "Apart": 1, "Box": 1, "Item": 3, "Note": 1} {
		is(t, name, find.Uses(s, name), n)
	}
	// Enums, values, fields, oneofs, parts of names, and what nothing is.
	for _, name := range []string{"Color", "Size", "Unused", "red", "id", "item", "pick", "", "Ite", "Items", "item"} {
		is(t, name, find.Uses(s, name), 0)
	}
	is(t, "named by none", find.Uses(of(message("M"), message("N", "M")), "N"), 0)
	is(t, "named more than once by one", find.Uses(of(message("M", "N", "M", "N", "N"), message("N")), "N"), 3)
	is(t, "named by several", find.Uses(of(message("M", "N"), message("N", "N", "O"), message("O", "N", "M")), "N"), 3)
	is(t, "no message's name", find.Uses(of(message("M", "N", "N")), "N"), 2)
	is(t, "the empty name", find.Uses(of(message("M", "", "N"), message("")), ""), 1)
	is(t, "two of one name", find.Uses(of(message("M", "M"), message("M", "M")), "M"), 2)
}

// P16.1, P16.2: only fields of TyMessage are of a message, whatever they have as Ref.
func TestOtherTypes(t *testing.T) {
	for ty := range 20 {
		s := of(message("M", "N"), message("N", "O"), message("O"))
		s.Messages[1].Fields[0].Type = ty - 2
		n, names := 0, []string{"M", "N"}
		if ty-2 == api.TyMessage {
			n, names = 1, []string{"M", "N", "O"}
		}
		is(t, "type "+strconv.Itoa(ty-2), find.Uses(s, "O"), n)
		tells(t, s, names...)
	}
	for _, ty := range []int{15 - 1<<32, 15 + 1<<32, -15, math.MinInt, math.MaxInt} {
		s := of(message("M", "N"), message("N"))
		s.Messages[0].Fields[0].Type = ty
		is(t, "type "+strconv.Itoa(ty), find.Uses(s, "N"), 0)
		tells(t, s, "M")
	}
}

// P16.1
func TestFree(t *testing.T) {
	// The numbers that the chapter's words part, of a message that has none of its own.
	for _, m := range []api.Message{{}, message("M")} {
		for _, num := range []int{1, 2, 18999, 20000, 1 << 20, api.MaxNum - 1, api.MaxNum} {
			is(t, strconv.Itoa(num), find.Free(m, num), true)
		}
		for _, num := range []int{0, -1, 19000, 19001, 19500, 19999, api.MaxNum + 1, 1 << 32, 1 + 1<<32, math.MinInt, math.MinInt + 1, math.MaxInt} {
			is(t, strconv.Itoa(num), find.Free(m, num), false)
		}
	}
	m := good().Messages[0]
	for _, f := range m.Fields {
		is(t, "a field's number "+strconv.Itoa(f.Num), find.Free(m, f.Num), false)
	}
	for _, num := range m.Barred {
		is(t, "a barred number "+strconv.Itoa(num), find.Free(m, num), false)
	}
	for _, num := range []int{9, 10, 18999, 20001, api.MaxNum - 1} {
		is(t, "a free number "+strconv.Itoa(num), find.Free(m, num), true)
	}
	// What one message has or bars, another one is free to have.
	is(t, "another one's number", find.Free(good().Messages[4], 1), true)
	is(t, "another one's barred number", find.Free(m, 1<<20), true)
}

// P16.1: each place among the fields and the barred numbers is asked.
func TestFreeOfEachPlace(t *testing.T) {
	var m api.Message
	for i := range 10 {
		m.Fields = append(m.Fields, api.Field{Name: "f", Num: 100 - 10*i})
		m.Barred = append(m.Barred, 1005-10*i)
	}
	for num := -10; num < 1100; num++ {
		want := num > 0 && (num%10 != 0 || num > 100) && (num%10 != 5 || num < 915 || num > 1005)
		is(t, strconv.Itoa(num), find.Free(m, num), want)
	}
}

// P16.2
func TestKin(t *testing.T) {
	tells(t, good(), "Order", "Item", "Note", "Box")
	for _, x := range []struct {
		what string
		s    api.Schema
		want string
	}{
		{"nobody is named", of(message("M")), "M"},
		{"nobody is named, and there are more", of(message("M"), message("A", "M"), message("B", "A")), "M"},
		{"itself alone", of(message("M", "M", "M"), message("A")), "M"},
		{"a chain", of(message("M", "D"), message("A"), message("B", "A"), message("C", "B"), message("D", "C")), "M D C B A"},
		{"a ring", of(message("M", "B"), message("A", "M"), message("B", "A")), "M B A"},
		{"a ring that is come to", of(message("M", "A"), message("A", "B"), message("B", "C"), message("C", "A")), "M A B C"},
		{"each names itself", of(message("M", "M", "B"), message("A", "A"), message("B", "A", "B")), "M B A"},
		{"each names all", of(message("M", "A", "M", "B"), message("A", "B", "A", "M"), message("B", "M", "B", "A")), "M A B"},
		{"in the fields' order, not in the messages'", of(message("M", "C", "A", "B"), message("A"), message("B"), message("C")), "M C A B"},
		{"first those that the first one names", of(message("M", "A", "B"), message("A", "C", "D"), message("B", "E"), message("C", "F"), message("D"), message("E"), message("F")), "M A B C D E F"},
		{"one that two name stands where it is named first", of(message("M", "B", "A"), message("A", "D", "C"), message("B", "C"), message("C"), message("D")), "M B A C D"},
		{"twice by one", of(message("M", "A", "A", "B", "A"), message("A"), message("B", "A")), "M A B"},
		{"unreached ones name one another, and the reached", of(message("M", "A"), message("A"), message("B", "C", "A"), message("C", "B", "M")), "M A"},
		{"no message's name", of(message("M", "X", "A", "Y"), message("A", "Z", "X")), "M A"},
		{"parts of names, and other letters", of(message("Ma", "M", "a", "Mab", "ma", "A"), message("a"), message("b")), "Ma a"},
		{"two of one name: the first one's fields", of(message("M", "A"), message("A", "B"), message("A", "C"), message("B"), message("C")), "M A B"},
		{"two of the first one's name", of(message("M", "A"), message("M", "B"), message("A", "M"), message("B")), "M A"},
		{"two of one name, the other way round", of(message("M", "A"), message("A"), message("A", "B"), message("B")), "M A"},
	} {
		t.Run(x.what, func(t *testing.T) { tells(t, x.s, strings.Fields(x.want)...) })
	}
	// A field of TyEnum may have a message's name; an enum's name is no message's.
	s := of(message("M", "E", "A", "B"), message("A"), message("B"))
	s.Enums = []api.Enum{{Name: "E"}, {Name: "B"}}
	s.Messages[0].Fields[1].Type = api.TyEnum
	tells(t, s, "M", "B")
	// Names that are none are texts like others.
	tells(t, of(message("", "to", "\xff"), message("to", "", "1"), message("1"), message("\xff")), "", "to", "\xff", "1")
	tells(t, of(message("M", ""), message("A")), "M")
}

// P16.2: it is told to stop behind the first, the second and the last name; then no more is told, also if it is gone through by hand.
func TestKinIsToldToStop(t *testing.T) {
	s := good()
	want := []string{"Order", "Item", "Note", "Box"}
	for most := 1; most <= len(want); most++ {
		var l []string
		find.Kin(s)(func(name string) bool {
			l = append(l, name)
			return len(l) < most
		})
		are(t, "stopped", l, want[:most]...)
	}
}

// P16.2, rule 4: one answer of Kin can be gone through again, also while it is gone through, and from the first name on.
func TestKinIsGoneThroughAgain(t *testing.T) {
	want := []string{"Order", "Item", "Note", "Box"}
	seq := find.Kin(good())
	for range seq {
		break
	}
	for range 2 {
		var l []string
		for name := range seq {
			l = append(l, name)
			are(t, "within", upTo(seq, len(l)), want[:len(l)]...)
		}
		are(t, "again", l, want...)
	}
}

// P16.1, P16.2: schemas and messages in which there is nothing.
func TestNothing(t *testing.T) {
	for _, s := range []api.Schema{{}, {Enums: []api.Enum{}, Messages: []api.Message{}}, {Enums: []api.Enum{{Name: "M"}}}} {
		tells(t, s)
		for _, name := range []string{"", "N", "id"} {
			is(t, "Message", find.Message(s, name), -1)
			is(t, "Enum", find.Enum(s, name), -1)
			is(t, "Uses", find.Uses(s, name), 0)
		}
	}
	is(t, "only an enum has it", find.Message(api.Schema{Enums: []api.Enum{{Name: "M"}}}, "M"), -1)
	is(t, "only a message has it", find.Enum(of(message("M")), "M"), -1)
	for _, m := range []api.Message{{}, {Fields: []api.Field{}, Barred: []int{}}, {Name: "M", Barred: []int{0}}} {
		for _, name := range []string{"", "M"} {
			is(t, "Field", find.Field(m, name), -1)
			are(t, "Members", find.Members(m, name))
		}
		is(t, "Number", find.Number(m, 0), -1)
		is(t, "Free of 0", find.Free(m, 0), false)
		is(t, "Free of 1", find.Free(m, 1), true)
	}
	// A thing of which all is empty is there, nonetheless.
	s := api.Schema{Enums: make([]api.Enum, 2), Messages: make([]api.Message, 2)}
	is(t, "Message", find.Message(s, ""), 0)
	is(t, "Enum", find.Enum(s, ""), 0)
	tells(t, s, "")
	m := api.Message{Fields: make([]api.Field, 2)}
	is(t, "Field", find.Field(m, ""), 0)
	is(t, "Number", find.Number(m, 0), 0)
	are(t, "Members", find.Members(m, ""))
	is(t, "Uses", find.Uses(of(m), ""), 0)
}

// few is one of a few texts, some of which are no names.
func few(r *rand.Rand, n int) string {
	return []string{"A", "B", "C", "D", "E", "", "a", "A1", "é", "\xff"}[r.Intn(n)]
}

// number is one of a few numbers, most of which a field may have.
func number(r *rand.Rand) int {
	if r.Intn(3) > 0 {
		return r.Intn(6)
	}
	return []int{-1, 0, 18999, 19000, 19999, 20000, api.MaxNum, api.MaxNum + 1, math.MinInt, math.MaxInt}[r.Intn(10)]
}

// chance is a schema by chance, of a few names: one that may not be, most often.
func chance(r *rand.Rand) api.Schema {
	var s api.Schema
	texts := 1 + r.Intn(10)
	for range r.Intn(5) {
		s.Enums = append(s.Enums, api.Enum{Name: few(r, texts)})
	}
	most := r.Intn(8)
	for range r.Intn(12) {
		m := api.Message{Name: few(r, texts)}
		for range r.Intn(1 + most) {
			m.Fields = append(m.Fields, api.Field{Name: few(r, texts), Num: number(r), Type: 15 - r.Intn(2)*r.Intn(16), Ref: few(r, texts), One: few(r, texts)})
		}
		for range r.Intn(4) {
			m.Barred = append(m.Barred, number(r))
		}
		s.Messages = append(s.Messages, m)
	}
	return s
}

// agrees tells of a message of which something is not what the words say.
func agrees(t *testing.T, m api.Message, texts []string, nums []int) {
	t.Helper()
	for _, name := range texts {
		is(t, "Field", find.Field(m, name), first(len(m.Fields), func(i int) bool { return m.Fields[i].Name == name }))
		are(t, "Members", find.Members(m, name), members(m, name)...)
	}
	for _, num := range nums {
		is(t, "Number", find.Number(m, num), first(len(m.Fields), func(i int) bool { return m.Fields[i].Num == num }))
		is(t, "Free", find.Free(m, num), free(m, num))
	}
	if t.Failed() {
		t.Fatal("of", told(m))
	}
}

// P16.1, P16.2: schemas by chance, by the words.
func TestByTheWords(t *testing.T) {
	r := rand.New(rand.NewSource(161))
	texts := []string{"A", "B", "C", "D", "E", "", "a", "A1", "é", "\xff", "F"}
	nums := []int{-1, 0, 1, 2, 3, 4, 5, 6, 18999, 19000, 19999, 20000, api.MaxNum, api.MaxNum + 1, math.MinInt, math.MaxInt}
	long, short := 0, 0
	for range 20000 {
		s := chance(r)
		for _, name := range texts {
			is(t, "Message", find.Message(s, name), first(len(s.Messages), func(i int) bool { return s.Messages[i].Name == name }))
			is(t, "Enum", find.Enum(s, name), first(len(s.Enums), func(i int) bool { return s.Enums[i].Name == name }))
			is(t, "Uses", find.Uses(s, name), uses(s, name))
		}
		if t.Failed() {
			t.Fatal("of", told(s))
		}
		for _, m := range s.Messages {
			agrees(t, m, texts, nums)
		}
		want := kin(s)
		tells(t, s, want...)
		if len(want) > 3 {
			long++
		}
		if len(want) < len(s.Messages) {
			short++
		}
	}
	if long < 500 || short < 500 {
		t.Errorf("the material is poor: %d reach far, %d do not reach all", long, short)
	}
}

// P16.3: what is told is told once, what its messages name is told, and nothing else is.
func TestWhatIsToldIsClosed(t *testing.T) {
	r := rand.New(rand.NewSource(163))
	for range 20000 {
		s := chance(r)
		times := map[string]int{}
		var order []string
		for name := range find.Kin(s) {
			times[name]++
			order = append(order, name)
		}
		named := map[string]int{}
		for i, name := range order {
			at := find.Message(s, name)
			if at < 0 || times[name] != 1 {
				t.Fatalf("Kin of %s: %q is told %d times, and is at %d", told(s), name, times[name], at)
			}
			// But for the first one each is named by one that is told ahead of it.
			if _, there := named[name]; i > 0 && !there {
				t.Fatalf("Kin of %s: nobody ahead names %q: %q", told(s), name, order)
			}
			for _, f := range s.Messages[at].Fields {
				if f.Type == api.TyMessage {
					named[f.Ref]++
				}
			}
		}
		for name := range named {
			if find.Message(s, name) >= 0 && times[name] != 1 {
				t.Fatalf("Kin of %s: %q is named, and told %d times: %q", told(s), name, times[name], order)
			}
		}
		if (len(s.Messages) > 0) != (len(order) > 0) || len(order) > 0 && order[0] != s.Messages[0].Name {
			t.Fatalf("Kin of %s: %q", told(s), order)
		}
	}
}

// P16.3: in a schema that may be, just as many messages are told as one that has these alone has.
func TestOnlyWhatIsTold(t *testing.T) {
	s := good()
	less := schema.Copy(s)
	names := slices.Collect(find.Kin(s))
	less.Messages = slices.DeleteFunc(less.Messages, func(m api.Message) bool { return !slices.Contains(names, m.Name) })
	is(t, "messages", len(less.Messages), 4)
	is(t, "Check", schema.Check(less), api.OK)
	tells(t, less, names...)
}

// P16.2: very many messages, in a chain from the last one on, in a ring, and all named by the first one.
func TestMuch(t *testing.T) {
	const n = 1 << 17
	name := func(i int) string { return "m" + strconv.Itoa(i) }
	var chain api.Schema
	var all []string
	want := []string{name(0)}
	for i := range n {
		chain.Messages = append(chain.Messages, message(name(i), name((i+n-1)%n)))
		all = append(all, name(i))
		if i > 0 {
			want = append(want, name(n-i))
		}
	}
	tells(t, chain, want...)
	is(t, "Message", find.Message(chain, name(n-1)), n-1)
	is(t, "Uses", find.Uses(chain, name(n-1)), 1)
	wide := of(message(name(0), all...))
	for i := 1; i < n; i++ {
		wide.Messages = append(wide.Messages, message(name(i)))
	}
	tells(t, wide, all...)
	is(t, "Field", find.Field(wide.Messages[0], "f"+strconv.Itoa(n-1)), n-1)
	is(t, "Free", find.Free(wide.Messages[0], n+1), true)
	// A message that names one other very often, and all the others that do so, too.
	often := of(message("M", slices.Repeat([]string{"N"}, n)...), message("N", slices.Repeat([]string{"M"}, n)...))
	tells(t, often, "M", "N")
	is(t, "Uses", find.Uses(often, "N"), n)
}

// Rule 3: nothing that is handed in is changed, and the same is answered again.
func TestNothingIsChanged(t *testing.T) {
	r := rand.New(rand.NewSource(3))
	ask := func(s api.Schema) []any {
		l := []any{find.Message(s, "A"), find.Enum(s, "A"), find.Uses(s, "A"), slices.Collect(find.Kin(s))}
		for _, m := range s.Messages {
			l = append(l, find.Field(m, "A"), find.Number(m, 1), find.Members(m, "A"), find.Free(m, 1))
		}
		return l
	}
	for range 2000 {
		s := chance(r)
		c := schema.Copy(s)
		was := ask(s)
		if !schema.Same(s, c) || !reflect.DeepEqual(ask(s), was) || !reflect.DeepEqual(ask(c), was) {
			t.Fatalf("%s: changed, or answered otherwise", told(s))
		}
	}
}

// Rule 3: what stands behind a list, in its room, is none of it, and stays.
func TestRoomBehindLists(t *testing.T) {
	room := []api.Message{message("M", "A", "B"), message("A"), message("B")}
	room[0].Barred = []int{7, 8}[:1]
	fields := room[0].Fields
	room[0].Fields = fields[:1]
	s := of(room[:1]...)
	tells(t, s, "M")
	is(t, "Message", find.Message(s, "A"), -1)
	is(t, "Uses", find.Uses(s, "B"), 0)
	is(t, "Field", find.Field(s.Messages[0], "f1"), -1)
	is(t, "Free", find.Free(s.Messages[0], 8), true)
	tells(t, of(room[:2]...), "M", "A")
	if !reflect.DeepEqual(room[1:], []api.Message{message("A"), message("B")}) || fields[1].Ref != "B" {
		t.Errorf("changed: %s, %v", told(room), fields)
	}
}

// Rule 3: what is answered shares nothing with what was handed in, nor with another answer.
func TestMembersAreNew(t *testing.T) {
	m := good().Messages[0]
	a, b := find.Members(m, "pick"), find.Members(m, "pick")
	clear(a[:cap(a)])
	are(t, "another answer", b, 2, 6, 20000)
	are(t, "asked again", find.Members(m, "pick"), 2, 6, 20000)
}

// Rule 3: a schema that is changed when Kin has answered, and while it is gone through, is kept by nobody.
func TestKinOfASchemaThatIsChanged(t *testing.T) {
	want := []string{"Order", "Item", "Note", "Box"}
	spoil := func(s api.Schema) {
		for _, m := range s.Messages {
			clear(m.Fields)
		}
		clear(s.Messages)
	}
	s := good()
	seq := find.Kin(s)
	spoil(s)
	are(t, "changed ahead", slices.Collect(seq), want...)
	s = good()
	var l []string
	for name := range find.Kin(s) {
		l = append(l, name)
		spoil(s)
	}
	are(t, "changed meanwhile", l, want...)
}

// Rule 3: not even texts are kept: of a long text Kin keeps no more than the name.
func TestKinKeepsNoTexts(t *testing.T) {
	long := strings.Repeat("MA", 1000)
	s := of(message(long[:1], long[1:2]), message(long[1:2]))
	at := uintptr(unsafe.Pointer(unsafe.StringData(long)))
	for name := range find.Kin(s) {
		if p := uintptr(unsafe.Pointer(unsafe.StringData(name))); at <= p && p < at+uintptr(len(long)) {
			t.Errorf("%q is a piece of the long text", name)
		}
	}
	tells(t, s, "M", "A")
}
