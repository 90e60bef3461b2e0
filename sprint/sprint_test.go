package sprint_test

import (
	"fmt"
	"math"
	"math/rand"
	"slices"
	"strconv"
	"strings"
	"testing"
	"unsafe"

	"ecdysis/api"
	"ecdysis/field"
	"ecdysis/scalar"
	"ecdysis/schema"
	"ecdysis/sprint"
)

// good is a schema that may be: several enums and messages, whose names are below the enums' or not; a root whose name is above the next message's; a field of each type; repeated and loose ones; oneofs, whose fields stand side by side or not; one barred number, several and none; messages without fields. It is made anew each time.
func good() api.Schema {
	return api.Schema{
		Enums: []api.Enum{
			{Name: "Color", Values: []api.Value{{Name: "red"}, {Name: "green", Num: 1}, {Name: "blue", Num: 1 << 20}}},
			{Name: "Size", Values: []api.Value{{Name: "red"}}},
		},
		Messages: []api.Message{
			{Name: "Order", Fields: []api.Field{
				{Name: "a", Num: 1, Type: api.TyInt32},
				{Name: "b", Num: 2, Type: api.TyInt64, Rep: true},
				{Name: "c", Num: 4, Type: api.TyUint32, Rep: true, Loose: true},
				{Name: "d", Num: 5, Type: api.TyUint64, One: "pick"},
				{Name: "e", Num: 6, Type: api.TySint32, One: "other"},
				{Name: "f", Num: 8, Type: api.TySint64, One: "pick"},
				{Name: "g", Num: 20000, Type: api.TyBool},
				{Name: "h", Num: api.MaxNum, Type: api.TyFixed32},
			}, Barred: []int{3, 7, 19000, api.MaxNum - 1}},
			{Name: "Apart", Barred: []int{1}},
			{Name: "Box", Fields: []api.Field{
				{Name: "a", Num: 1, Type: api.TyFixed64},
				{Name: "b", Num: 2, Type: api.TySfixed32},
				{Name: "c", Num: 3, Type: api.TySfixed64},
				{Name: "d", Num: 4, Type: api.TyString},
				{Name: "e", Num: 5, Type: api.TyBytes, Rep: true},
				{Name: "f", Num: 6, Type: api.TyEnum, Ref: "Color"},
				{Name: "g", Num: 7, Type: api.TyEnum, Ref: "Size", Rep: true, Loose: true},
				{Name: "h", Num: 9, Type: api.TyMessage, Ref: "Box", One: "pick"},
				{Name: "i", Num: 10, Type: api.TyMessage, Ref: "Note", Rep: true},
			}, Barred: []int{8}},
			{Name: "Note"},
		},
	}
}

// goodText is the text of good().
const goodText = `enum Color {
  red = 0;
  green = 1;
  blue = 1048576;
}
enum Size {
  red = 0;
}
message Order {
  reserved 3, 7, 19000, 536870910;
  int32 a = 1;
  repeated int64 b = 2;
  loose uint32 c = 4;
  oneof pick uint64 d = 5;
  oneof other sint32 e = 6;
  oneof pick sint64 f = 8;
  bool g = 20000;
  fixed32 h = 536870911;
}
message Apart {
  reserved 1;
}
message Box {
  reserved 8;
  fixed64 a = 1;
  sfixed32 b = 2;
  sfixed64 c = 3;
  string d = 4;
  repeated bytes e = 5;
  Color f = 6;
  loose Size g = 7;
  oneof pick Box h = 9;
  repeated Note i = 10;
}
message Note {
}
`

// is tells of an answer that is another one.
func is[T comparable](t *testing.T, what string, got, want T) {
	t.Helper()
	if got != want {
		t.Errorf("%s: %#v; wanted %#v", what, got, want)
	}
}

// about is what the test asks for, short enough to be told.
func about(x any) string {
	if s := fmt.Sprintf("%#v", x); len(s) < 5000 {
		return s
	}
	return "something very great"
}

// lines is those lines, each with its line feed.
func lines(l ...string) string {
	return strings.Join(append(l, ""), "\n")
}

// number is what a number is told as, by the words of P17.1.
func number(n int) string {
	if n < 0 {
		return "0"
	}
	return strconv.Itoa(n)
}

// enumLines is what Enum has to answer, by the words of P17.1.
func enumLines(e api.Enum) string {
	l := []string{"enum " + e.Name + " {"}
	for _, v := range e.Values {
		l = append(l, "  "+v.Name+" = "+number(v.Num)+";")
	}
	return lines(append(l, "}")...)
}

// messageLines is what Message has to answer, by the words of P17.1.
func messageLines(m api.Message) string {
	l := []string{"message " + m.Name + " {"}
	var bars []string
	for _, n := range m.Barred {
		bars = append(bars, number(n))
	}
	if len(bars) > 0 {
		l = append(l, "  reserved "+strings.Join(bars, ", ")+";")
	}
	for _, f := range m.Fields {
		one := ""
		if f.One != "" {
			one = "oneof " + f.One + " "
		}
		l = append(l, "  "+one+field.Text(f))
	}
	return lines(append(l, "}")...)
}

// schemaLines is what Text has to answer, by the words of P17.1.
func schemaLines(s api.Schema) string {
	if schema.Check(s) != api.OK {
		return ""
	}
	text := ""
	for _, e := range s.Enums {
		text += enumLines(e)
	}
	for _, m := range s.Messages {
		text += messageLines(m)
	}
	return text
}

// read is the schema whose text that is: it is made out of the lines' words alone.
func read(text string) api.Schema {
	var s api.Schema
	sort := map[string]int{}
	for line := range strings.Lines(text) {
		w := strings.Fields(strings.NewReplacer(",", " ", ";", " ").Replace(line))
		switch {
		case w[0] == "enum":
			sort[w[1]] = api.TyEnum
			s.Enums = append(s.Enums, api.Enum{Name: w[1]})
		case w[0] == "message":
			s.Messages = append(s.Messages, api.Message{Name: w[1]})
		case w[0] == "}":
		case len(s.Messages) == 0:
			e := &s.Enums[len(s.Enums)-1]
			e.Values = append(e.Values, api.Value{Name: w[0], Num: read1(w[2])})
		case w[0] == "reserved":
			for _, n := range w[1:] {
				m := &s.Messages[len(s.Messages)-1]
				m.Barred = append(m.Barred, read1(n))
			}
		default:
			m := &s.Messages[len(s.Messages)-1]
			m.Fields = append(m.Fields, readField(w, sort))
		}
	}
	return s
}

// read1 is the number that the digits say.
func read1(digits string) int {
	n, err := strconv.Atoi(digits)
	if err != nil {
		panic(err)
	}
	return n
}

// readField is the field of those words.
func readField(w []string, sort map[string]int) api.Field {
	var f api.Field
	if w[0] == "oneof" {
		f.One, w = w[1], w[2:]
	}
	if w[0] == "repeated" || w[0] == "loose" {
		f.Rep, f.Loose, w = true, w[0] == "loose", w[1:]
	}
	f.Type = scalar.Of(w[0])
	if f.Type == 0 {
		f.Type, f.Ref = api.TyMessage, w[0]
		if sort[w[0]] != 0 {
			f.Type = sort[w[0]]
		}
	}
	f.Name, f.Num = w[1], read1(w[3])
	return f
}

// P17.1: the chapter's example, byte for byte.
func TestExample(t *testing.T) {
	m := api.Message{Name: "M", Fields: []api.Field{{Name: "a", Num: 1, Type: api.TyInt32, One: "o"}}}
	want := "message M {\n  oneof o int32 a = 1;\n}\n"
	is(t, "Message", sprint.Message(m), want)
	is(t, "Text", sprint.Text(api.Schema{Messages: []api.Message{m}}), want)
}

// P17.1: enums ahead of messages, each in their order, though their names are in another one.
func TestText(t *testing.T) {
	s := good()
	is(t, "Check", schema.Check(s), api.OK)
	is(t, "Text", sprint.Text(s), goodText)
	is(t, "Text, by the words", schemaLines(s), goodText)
	whole := ""
	for _, e := range s.Enums {
		whole += sprint.Enum(e)
	}
	for _, m := range s.Messages {
		whole += sprint.Message(m)
	}
	is(t, "what Enum and Message tell", whole, goodText)
	s.Enums, s.Messages = nil, []api.Message{{Name: "M"}}
	is(t, "a message alone", sprint.Text(s), "message M {\n}\n")
	s.Enums = []api.Enum{{Name: "Z", Values: []api.Value{{Name: "z"}}}}
	is(t, "an enum that nobody names", sprint.Text(s), "enum Z {\n  z = 0;\n}\nmessage M {\n}\n")
}

// P17.1
func TestEnum(t *testing.T) {
	for _, x := range []struct {
		e    api.Enum
		want string
	}{
		{api.Enum{Name: "E", Values: []api.Value{{Name: "x"}}}, "enum E {\n  x = 0;\n}\n"},
		{api.Enum{Name: "E", Values: []api.Value{{Name: "x"}, {Name: "y", Num: 3}, {Name: "z", Num: 1 << 20}}}, "enum E {\n  x = 0;\n  y = 3;\n  z = 1048576;\n}\n"},
		// What may not be is told, too: no values, numbers in no order, and below 0, and texts that are no names.
		{api.Enum{}, "enum  {\n}\n"},
		{api.Enum{Name: "E"}, "enum E {\n}\n"},
		{api.Enum{Name: "E", Values: []api.Value{}}, "enum E {\n}\n"},
		{api.Enum{Name: "E", Values: []api.Value{{Name: "x", Num: -1}, {Name: "x", Num: math.MinInt}, {Name: "x", Num: math.MinInt + 1}, {Name: "x", Num: -1 << 32}}}, "enum E {\n  x = 0;\n  x = 0;\n  x = 0;\n  x = 0;\n}\n"},
		{api.Enum{Name: "E", Values: []api.Value{{Name: "b", Num: 10}, {Name: "a", Num: 9}, {Num: math.MaxInt}, {Name: "c", Num: 1<<20 + 1}}}, "enum E {\n  b = 10;\n  a = 9;\n   = 9223372036854775807;\n  c = 1048577;\n}\n"},
		{api.Enum{Name: "enum", Values: []api.Value{{Name: "a b"}, {Name: "\n"}, {Name: "é\xff"}, {Name: "%d"}}}, "enum enum {\n  a b = 0;\n  \n = 0;\n  é\xff = 0;\n  %d = 0;\n}\n"},
	} {
		is(t, "Enum of "+about(x.e), sprint.Enum(x.e), x.want)
	}
}

// P17.1: a message without fields, with and without barred numbers; one, and several; the least and the greatest.
func TestMessage(t *testing.T) {
	a := []api.Field{{Name: "a", Num: 1, Type: api.TyString}, {Name: "b", Num: api.MaxNum, Type: api.TyMessage, Ref: "N", Rep: true}}
	for _, x := range []struct {
		m    api.Message
		want string
	}{
		{api.Message{Name: "M"}, "message M {\n}\n"},
		{api.Message{Name: "M", Fields: []api.Field{}, Barred: []int{}}, "message M {\n}\n"},
		{api.Message{Name: "M", Barred: []int{1}}, "message M {\n  reserved 1;\n}\n"},
		{api.Message{Name: "M", Barred: []int{1, api.MaxNum}}, "message M {\n  reserved 1, 536870911;\n}\n"},
		{api.Message{Name: "M", Barred: []int{1, 2, 3, 4, 5, 6, 7, 8}}, "message M {\n  reserved 1, 2, 3, 4, 5, 6, 7, 8;\n}\n"},
		{api.Message{Name: "M", Fields: a}, "message M {\n  string a = 1;\n  repeated N b = 536870911;\n}\n"},
		{api.Message{Name: "M", Fields: a, Barred: []int{2, 19500}}, "message M {\n  reserved 2, 19500;\n  string a = 1;\n  repeated N b = 536870911;\n}\n"},
		// What may not be is told, too: numbers in no order, below 0, twice, and those that a field has; fields in no order; texts that are no names.
		{api.Message{}, "message  {\n}\n"},
		{api.Message{Name: "M", Barred: []int{0}}, "message M {\n  reserved 0;\n}\n"},
		{api.Message{Name: "M", Barred: []int{-1}}, "message M {\n  reserved 0;\n}\n"},
		{api.Message{Name: "M", Barred: []int{9, math.MinInt, 2, 2, -7, math.MaxInt, 1 << 29, math.MinInt + 1}}, "message M {\n  reserved 9, 0, 2, 2, 0, 9223372036854775807, 536870912, 0;\n}\n"},
		{api.Message{Name: "M", Fields: []api.Field{a[1], a[0], a[0]}, Barred: []int{1}}, "message M {\n  reserved 1;\n  repeated N b = 536870911;\n  string a = 1;\n  string a = 1;\n}\n"},
		{api.Message{Name: "}\n%s\xff", Fields: a[:1]}, "message }\n%s\xff {\n  string a = 1;\n}\n"},
	} {
		is(t, "Message of "+about(x.m), sprint.Message(x.m), x.want)
	}
}

// P17.1: a field of each type, as one value, repeated, loose where it may be, and in a oneof.
func TestEachType(t *testing.T) {
	words := []string{"int32", "int64", "uint32", "uint64", "sint32", "sint64", "bool", "fixed32", "fixed64", "sfixed32", "sfixed64", "string", "bytes", "E", "M"}
	enum := api.Enum{Name: "E", Values: []api.Value{{Name: "x"}}}
	for i, word := range words {
		f := api.Field{Name: "a", Num: 1, Type: i + 1}
		if f.Type >= api.TyEnum {
			f.Ref = word
		}
		tell := func(f api.Field, line string) {
			t.Helper()
			m := api.Message{Name: "M", Fields: []api.Field{f}}
			want := "message M {\n  " + line + "\n}\n"
			is(t, word, sprint.Message(m), want)
			is(t, word, sprint.Text(api.Schema{Messages: []api.Message{m}, Enums: []api.Enum{enum}}), "enum E {\n  x = 0;\n}\n"+want)
		}
		tell(f, word+" a = 1;")
		one, rep := f, f
		one.One = "pick"
		tell(one, "oneof pick "+word+" a = 1;")
		rep.Rep = true
		tell(rep, "repeated "+word+" a = 1;")
		rep.Loose = true
		if i+1 < api.TyString || i+1 == api.TyEnum {
			tell(rep, "loose "+word+" a = 1;")
		}
	}
}

// P17.1: a field that may not be is told as field.Text tells it, behind what is told of its oneof.
func TestFieldsThatMayNotBe(t *testing.T) {
	for _, f := range []api.Field{
		{},
		{Name: "a", Num: 1},
		{Name: "a", Num: 1, Type: -1},
		{Name: "a", Num: 1, Type: 16},
		{Name: "a", Num: 1, Type: math.MinInt},
		{Name: "a", Num: 1, Type: math.MaxInt},
		{Name: "a", Num: 0, Type: api.TyInt32},
		{Name: "a", Num: -1, Type: api.TyInt32},
		{Name: "a", Num: 19000, Type: api.TyInt32},
		{Name: "a", Num: 19999, Type: api.TyInt32},
		{Name: "a", Num: api.MaxNum + 1, Type: api.TyInt32},
		{Name: "to", Num: 1, Type: api.TyInt32},
		{Name: "", Num: 1, Type: api.TyInt32},
		{Name: "a", Num: 1, Type: api.TyInt32, Ref: "M"},
		{Name: "a", Num: 1, Type: api.TyMessage},
		{Name: "a", Num: 1, Type: api.TyEnum, Ref: "of"},
		{Name: "a", Num: 1, Type: api.TyInt32, Loose: true},
		{Name: "a", Num: 1, Type: api.TyString, Rep: true, Loose: true},
	} {
		is(t, about(f), sprint.Message(api.Message{Name: "M", Fields: []api.Field{f}}), "message M {\n  \n}\n")
		f.One = "pick"
		is(t, about(f), sprint.Message(api.Message{Name: "M", Fields: []api.Field{f}}), "message M {\n  oneof pick \n}\n")
	}
	a := api.Field{Name: "a", Num: 1, Type: api.TyInt32}
	for _, one := range []string{"of", "1", "a b", "\n", "é", "\xff"} {
		f := a
		f.One = one
		is(t, one, sprint.Message(api.Message{Name: "M", Fields: []api.Field{a, f, a}}), "message M {\n  int32 a = 1;\n  oneof "+one+" \n  int32 a = 1;\n}\n")
	}
	// A oneof may not have what is repeated.
	a.One, a.Rep = "pick", true
	is(t, "repeated", sprint.Message(api.Message{Name: "M", Fields: []api.Field{a}}), "message M {\n  oneof pick \n}\n")
}

// P17.1: of a schema that may not be there is no text, whatever it is that may not be.
func TestSchemasThatMayNotBe(t *testing.T) {
	is(t, "the empty schema", sprint.Text(api.Schema{}), "")
	is(t, "nil lists", sprint.Text(api.Schema{Enums: nil, Messages: nil}), "")
	is(t, "empty lists", sprint.Text(api.Schema{Enums: []api.Enum{}, Messages: []api.Message{}}), "")
	field := func(change func(f *api.Field)) func(s *api.Schema) {
		return func(s *api.Schema) { change(&s.Messages[2].Fields[8]) }
	}
	for _, x := range []struct {
		what   string
		e      api.Errno
		change func(s *api.Schema)
	}{
		{"many enums", api.ErrMany, func(s *api.Schema) {
			v := []api.Value{{Name: "v"}}
			s.Enums = append(s.Enums, api.Enum{Name: "Sizf", Values: v}, api.Enum{Name: "Sizg", Values: v})
		}},
		{"many messages", api.ErrMany, func(s *api.Schema) {
			s.Messages = append(s.Messages, api.Message{Name: "Oa"}, api.Message{Name: "Ob"}, api.Message{Name: "Oc"})
		}},
		{"many values", api.ErrMany, func(s *api.Schema) {
			for i := range 8 {
				s.Enums[1].Values = append(s.Enums[1].Values, api.Value{Name: "v" + strconv.Itoa(i), Num: i + 1})
			}
		}},
		{"many fields", api.ErrMany, func(s *api.Schema) {
			for i := range 11 {
				s.Messages[3].Fields = append(s.Messages[3].Fields, api.Field{Name: "f" + strconv.Itoa(i), Num: i + 1, Type: api.TyBool})
			}
		}},
		{"many barred numbers", api.ErrMany, func(s *api.Schema) { s.Messages[3].Barred = []int{1, 2, 3, 4, 5, 6, 7, 8, 9} }},
		{"no messages", api.ErrNone, func(s *api.Schema) { s.Messages = s.Messages[:0] }},
		{"an enum without values", api.ErrNone, func(s *api.Schema) { s.Enums[1].Values = nil }},
		{"an enum's name", api.ErrText, func(s *api.Schema) { s.Enums[1].Name = "to" }},
		{"a value's name", api.ErrText, func(s *api.Schema) { s.Enums[0].Values[2].Name = "" }},
		{"a message's name", api.ErrText, func(s *api.Schema) { s.Messages[3].Name = "Notenotenoten" }},
		{"a field's name", api.ErrText, field(func(f *api.Field) { f.Name = "1a" })},
		{"a field's oneof", api.ErrText, field(func(f *api.Field) { f.One = "of" })},
		{"a field's Ref", api.ErrText, field(func(f *api.Field) { f.Ref = "" })},
		{"a field's number", api.ErrArg, field(func(f *api.Field) { f.Num = 19000 })},
		{"a field's type", api.ErrText, field(func(f *api.Field) { f.Type = 16 })},
		{"a field of no type", api.ErrArg, field(func(f *api.Field) { f.Type, f.Ref = 0, "" })},
		{"a repeated field in a oneof", api.ErrArg, field(func(f *api.Field) { f.One = "pick" })},
		{"a loose field of messages", api.ErrArg, field(func(f *api.Field) { f.Loose = true })},
		{"an enum and a message of one name", api.ErrThere, func(s *api.Schema) { s.Messages[1].Name = "Color" }},
		{"two values of one name", api.ErrThere, func(s *api.Schema) { s.Enums[0].Values[2].Name = "red" }},
		{"two fields of one name", api.ErrThere, field(func(f *api.Field) { f.Name = "a" })},
		{"a field and a oneof of one name", api.ErrThere, field(func(f *api.Field) { f.Name = "pick" })},
		{"enums that do not rise", api.ErrArg, func(s *api.Schema) { slices.Reverse(s.Enums) }},
		{"messages that do not rise", api.ErrArg, func(s *api.Schema) { slices.Reverse(s.Messages[1:]) }},
		{"fields that do not rise", api.ErrArg, func(s *api.Schema) { slices.Reverse(s.Messages[0].Fields) }},
		{"barred numbers that do not rise", api.ErrArg, func(s *api.Schema) { slices.Reverse(s.Messages[0].Barred) }},
		{"a barred number 0", api.ErrArg, func(s *api.Schema) { s.Messages[1].Barred[0] = 0 }},
		{"values that do not rise", api.ErrArg, func(s *api.Schema) { s.Enums[0].Values[2].Num = 1 }},
		{"a first value that is not 0", api.ErrArg, func(s *api.Schema) { s.Enums[1].Values[0].Num = 1 }},
		{"a value below 0", api.ErrArg, func(s *api.Schema) { s.Enums[1].Values[0].Num = -1 }},
		{"a value above 2^20", api.ErrArg, func(s *api.Schema) { s.Enums[0].Values[2].Num = 1<<20 + 1 }},
		{"a field's number that is barred", api.ErrThere, func(s *api.Schema) { s.Messages[2].Barred[0] = 10 }},
		{"a message that is not there", api.ErrNone, func(s *api.Schema) { s.Messages = s.Messages[:3] }},
		{"an enum that is not there", api.ErrNone, func(s *api.Schema) { s.Enums = s.Enums[:1] }},
		{"an enum's name for a message's", api.ErrNone, field(func(f *api.Field) { f.Ref = "Color" })},
	} {
		s := good()
		x.change(&s)
		is(t, x.what+": Check", schema.Check(s), x.e)
		is(t, x.what+": Text", sprint.Text(s), "")
	}
}

// changes is changes of good(), each of one thing, behind which it still may be.
var changes = []struct {
	what   string
	change func(s *api.Schema)
}{
	{"an enum's name", func(s *api.Schema) { s.Enums[1].Name, s.Messages[2].Fields[6].Ref = "Sizf", "Sizf" }},
	{"a value's name", func(s *api.Schema) { s.Enums[0].Values[1].Name = "greem" }},
	{"the last enum's value's name", func(s *api.Schema) { s.Enums[1].Values[0].Name = "r" }},
	{"a value's number", func(s *api.Schema) { s.Enums[0].Values[1].Num = 2 }},
	{"the greatest value's number", func(s *api.Schema) { s.Enums[0].Values[2].Num-- }},
	{"a value less", func(s *api.Schema) { s.Enums[0].Values = s.Enums[0].Values[:2] }},
	{"a value more", func(s *api.Schema) { s.Enums[1].Values = append(s.Enums[1].Values, api.Value{Name: "x", Num: 1}) }},
	{"values' names changed about", func(s *api.Schema) { s.Enums[0].Values[0].Name, s.Enums[0].Values[1].Name = "green", "red" }},
	{"an enum more", func(s *api.Schema) { s.Enums = append(s.Enums, api.Enum{Name: "Z", Values: s.Enums[1].Values}) }},
	{"the root's name", func(s *api.Schema) { s.Messages[0].Name = "Ordes" }},
	{"a message's name", func(s *api.Schema) { s.Messages[1].Name = "Apar" }},
	{"a message less", func(s *api.Schema) { s.Messages = slices.Delete(s.Messages, 1, 2) }},
	{"a message more", func(s *api.Schema) { s.Messages = append(s.Messages, api.Message{Name: "Notf"}) }},
	{"another root", func(s *api.Schema) {
		s.Messages = []api.Message{s.Messages[1], s.Messages[2], s.Messages[3], s.Messages[0]}
	}},
	{"a field's name", func(s *api.Schema) { s.Messages[0].Fields[0].Name = "a_" }},
	{"a field's name in capitals", func(s *api.Schema) { s.Messages[0].Fields[0].Name = "A" }},
	{"a field's number", func(s *api.Schema) { s.Messages[0].Fields[6].Num++ }},
	{"the greatest field's number", func(s *api.Schema) { s.Messages[0].Fields[7].Num -= 2 }},
	{"a field's type", func(s *api.Schema) { s.Messages[0].Fields[0].Type = api.TySint32 }},
	{"a field's type, in a oneof", func(s *api.Schema) { s.Messages[0].Fields[3].Type = api.TyString }},
	{"a repeated field's type", func(s *api.Schema) { s.Messages[2].Fields[4].Type = api.TyString }},
	{"a field's enum", func(s *api.Schema) { s.Messages[2].Fields[5].Ref = "Size" }},
	{"a field's message", func(s *api.Schema) { s.Messages[2].Fields[7].Ref = "Apart" }},
	{"a message for an enum", func(s *api.Schema) { f := &s.Messages[2].Fields[5]; f.Type, f.Ref = api.TyMessage, "Note" }},
	{"an enum for a message", func(s *api.Schema) { f := &s.Messages[2].Fields[8]; f.Type, f.Ref = api.TyEnum, "Size" }},
	{"Rep, where it is not", func(s *api.Schema) { s.Messages[0].Fields[0].Rep = true }},
	{"Rep, where it is", func(s *api.Schema) { s.Messages[0].Fields[1].Rep = false }},
	{"Rep of a message, where it is", func(s *api.Schema) { s.Messages[2].Fields[8].Rep = false }},
	{"Loose, where it is not", func(s *api.Schema) { s.Messages[0].Fields[1].Loose = true }},
	{"Loose, where it is", func(s *api.Schema) { s.Messages[0].Fields[2].Loose = false }},
	{"Loose of an enum, where it is", func(s *api.Schema) { s.Messages[2].Fields[6].Loose = false }},
	{"a oneof more", func(s *api.Schema) { s.Messages[0].Fields[0].One = "pick" }},
	{"a oneof less", func(s *api.Schema) { s.Messages[0].Fields[3].One = "" }},
	{"another oneof", func(s *api.Schema) { s.Messages[0].Fields[3].One = "other" }},
	{"a oneof's name", func(s *api.Schema) { s.Messages[0].Fields[4].One = "othes" }},
	{"oneofs changed about", func(s *api.Schema) { s.Messages[0].Fields[4].One, s.Messages[0].Fields[5].One = "pick", "other" }},
	{"a field less", func(s *api.Schema) { s.Messages[0].Fields = s.Messages[0].Fields[1:] }},
	{"a field more", func(s *api.Schema) {
		s.Messages[3].Fields = []api.Field{{Name: "a", Num: 1, Type: api.TyInt32}}
	}},
	{"a field in another message", func(s *api.Schema) {
		s.Messages[3].Fields, s.Messages[2].Fields = s.Messages[2].Fields[8:], s.Messages[2].Fields[:8]
	}},
	{"a barred number", func(s *api.Schema) { s.Messages[0].Barred[1] = 9 }},
	{"the last barred number", func(s *api.Schema) { s.Messages[0].Barred[3]-- }},
	{"a barred number alone", func(s *api.Schema) { s.Messages[1].Barred[0] = 2 }},
	{"a barred number less", func(s *api.Schema) { s.Messages[0].Barred = s.Messages[0].Barred[1:] }},
	{"no barred number", func(s *api.Schema) { s.Messages[1].Barred = nil }},
	{"a barred number more", func(s *api.Schema) { s.Messages[3].Barred = []int{1} }},
	{"barred numbers put together", func(s *api.Schema) { s.Messages[0].Barred = []int{37, 19000, api.MaxNum - 1} }},
	{"a barred number in another message", func(s *api.Schema) { s.Messages[1].Barred, s.Messages[3].Barred = nil, []int{1} }},
}

// P17.2: schemas that are alike but for one thing have unlike texts.
func TestUnlikeSchemas(t *testing.T) {
	texts := map[string]string{goodText: "good"}
	for _, x := range changes {
		s := good()
		x.change(&s)
		is(t, x.what+": Check", schema.Check(s), api.OK)
		is(t, x.what+": Same", schema.Same(s, good()), false)
		text := sprint.Text(s)
		if was, there := texts[text]; there {
			t.Errorf("%s: the text of %s", x.what, was)
		}
		texts[text] = x.what
		is(t, x.what+": by the words", text, schemaLines(s))
		if !schema.Same(read(text), s) {
			t.Errorf("%s: the text tells another schema: %s", x.what, text)
		}
	}
	// Each two of the changes, where both can be made.
	pairs := 0
	for i, x := range changes {
		for _, y := range changes[i+1:] {
			if s := good(); both(&s, x.change, y.change) && schema.Check(s) == api.OK {
				pairs++
				if !schema.Same(read(sprint.Text(s)), s) {
					t.Errorf("%s, %s: the text tells another schema: %s", x.what, y.what, sprint.Text(s))
				}
			}
		}
	}
	if pairs < 500 {
		t.Errorf("the material is poor: %d", pairs)
	}
}

// both makes both changes, and tells whether the second one found what it changes.
func both(s *api.Schema, first, second func(s *api.Schema)) (done bool) {
	defer func() { done = recover() == nil }()
	first(s)
	second(s)
	return
}

// name is a name by chance.
func name(r *rand.Rand) string {
	const first, next = "abAB", "abAB01_"
	b := []byte{first[r.Intn(len(first))]}
	for range r.Intn(3) {
		b = append(b, next[r.Intn(len(next))])
	}
	return string(b)
}

// names is so many names by chance, each there once, none of them one of those ahead.
func names(r *rand.Rand, n int, ahead ...string) []string {
	var l []string
	for len(l) < n {
		if s := name(r); !slices.Contains(l, s) && !slices.Contains(ahead, s) {
			l = append(l, s)
		}
	}
	return l
}

// rising is at most so many numbers by chance, from the least to the greatest one, which rise.
func rising(r *rand.Rand, n, least, most int) []int {
	var l []int
	for range n {
		l = append(l, least+r.Intn(1+min(most-least, 1<<r.Intn(31))))
	}
	slices.Sort(l)
	return slices.Compact(l)
}

// chance is a schema by chance; one that may be, most often.
func chance(r *rand.Rand) api.Schema {
	var s api.Schema
	titles := names(r, 9)
	enums, messages := titles[:r.Intn(4)], titles[3:4+r.Intn(6)]
	slices.Sort(enums)
	slices.Sort(messages[1:])
	for _, title := range enums {
		nums := append([]int{0}, rising(r, r.Intn(8), 1, 1<<20)...)
		e := api.Enum{Name: title}
		for i, name := range names(r, len(nums)) {
			e.Values = append(e.Values, api.Value{Name: name, Num: nums[i]})
		}
		s.Enums = append(s.Enums, e)
	}
	for _, title := range messages {
		s.Messages = append(s.Messages, chanceMessage(r, title, enums, messages))
	}
	return s
}

// chanceMessage is a message by chance, whose fields are of any type.
func chanceMessage(r *rand.Rand, title string, enums, messages []string) api.Message {
	m := api.Message{Name: title}
	nums := rising(r, r.Intn(11), 1, api.MaxNum)
	fields := names(r, len(nums))
	ones := names(r, 3, fields...)
	for i, num := range nums {
		f := api.Field{Name: fields[i], Num: num, Type: 1 + r.Intn(15)}
		switch {
		case f.Type == api.TyEnum && len(enums) > 0:
			f.Ref = enums[r.Intn(len(enums))]
		case f.Type >= api.TyEnum:
			f.Type, f.Ref = api.TyMessage, messages[r.Intn(len(messages))]
		}
		switch r.Intn(3) {
		case 0:
			f.Rep, f.Loose = true, scalar.Number(f.Type) && r.Intn(2) == 0
		case 1:
			f.One = ones[r.Intn(3)]
		}
		m.Fields = append(m.Fields, f)
	}
	for _, num := range rising(r, r.Intn(9), 1, api.MaxNum) {
		if !slices.Contains(nums, num) {
			m.Barred = append(m.Barred, num)
		}
	}
	return m
}

// P17.1, P17.2: schemas by chance are told by the words, and the texts tell the schemas that they are of.
func TestByTheWords(t *testing.T) {
	r := rand.New(rand.NewSource(171))
	may, seen := 0, map[string]api.Schema{}
	for range 20000 {
		s := chance(r)
		text := sprint.Text(s)
		if text != schemaLines(s) {
			t.Fatalf("Text of %s: %s", about(s), text)
		}
		if schema.Check(s) != api.OK {
			continue
		}
		may++
		if !schema.Same(read(text), s) {
			t.Fatalf("the text of %s tells another schema: %s", about(s), text)
		}
		if was, there := seen[text]; there && !schema.Same(was, s) {
			t.Fatalf("%s and %s: one text: %s", about(was), about(s), text)
		}
		seen[text] = s
	}
	if may < 15000 || len(seen) < 15000 {
		t.Errorf("the material is poor: %d may be, with %d texts", may, len(seen))
	}
}

// anything is a text by chance: a name, a word, or no name.
func anything(r *rand.Rand) string {
	return []string{"a", "b", "M", "E", "", "to", "message", "a b", "\n", "{", "é", "\xff", "%d%s"}[r.Intn(13)]
}

// someNumber is a number by chance, which may be any int.
func someNumber(r *rand.Rand) int {
	return []int{0, 1, 2, 7, 10, -1, -2, 19000, 20000, api.MaxNum, api.MaxNum + 1, 1 << 20, 1 << 32, -1 << 32, math.MinInt, math.MaxInt}[r.Intn(16)]
}

// P17.1: Enum and Message of anything, by the words.
func TestOfAnything(t *testing.T) {
	r := rand.New(rand.NewSource(172))
	for range 20000 {
		e, m := api.Enum{Name: anything(r)}, api.Message{Name: anything(r)}
		for range r.Intn(12) {
			e.Values = append(e.Values, api.Value{Name: anything(r), Num: someNumber(r)})
			f := api.Field{Name: anything(r), Num: someNumber(r), Type: r.Intn(18) - 1, Ref: anything(r), Rep: r.Intn(2) == 0, Loose: r.Intn(4) == 0, One: anything(r)}
			if r.Intn(2) == 0 {
				f.Ref = ""
			}
			m.Fields = append(m.Fields, f)
		}
		for range r.Intn(4) {
			m.Barred = append(m.Barred, someNumber(r))
		}
		is(t, "Enum", sprint.Enum(e), enumLines(e))
		is(t, "Message", sprint.Message(m), messageLines(m))
		s := api.Schema{Enums: []api.Enum{e}, Messages: []api.Message{m}}
		is(t, "Text", sprint.Text(s), schemaLines(s))
		if t.Failed() {
			t.Fatal("of", about(s))
		}
	}
}

// P17.1: a schema at all limits, with the longest names and the greatest numbers.
func TestTheGreatest(t *testing.T) {
	var s api.Schema
	long := func(c byte, i int) string { return strings.Repeat(string(c), api.MaxName-1) + string(rune('a'+i)) }
	for i := range api.MaxEnums {
		e := api.Enum{Name: long('E', i)}
		for k := range api.MaxValues {
			e.Values = append(e.Values, api.Value{Name: long('v', k), Num: k * (1<<20 - 1) / 7})
		}
		e.Values[api.MaxValues-1].Num = 1 << 20
		s.Enums = append(s.Enums, e)
	}
	for i := range api.MaxMessages {
		m := api.Message{Name: long('M', i)}
		for k := range api.MaxFields {
			m.Fields = append(m.Fields, api.Field{Name: long('f', k), Num: api.MaxNum - 9 + k, Type: api.TyEnum, Ref: s.Enums[0].Name, Rep: true})
			if k > 0 {
				m.Fields[k].One, m.Fields[k].Rep = long('o', k), false
			}
		}
		for k := range api.MaxBarred {
			m.Barred = append(m.Barred, api.MaxNum-20+k)
		}
		s.Messages = append(s.Messages, m)
	}
	is(t, "Check", schema.Check(s), api.OK)
	text := sprint.Text(s)
	is(t, "Text", text, schemaLines(s))
	is(t, "the text is not longer than one may be that is read", len(text) <= api.MaxText, true)
	is(t, "the text tells the schema", schema.Same(read(text), s), true)
	is(t, "ends with a line feed", strings.HasSuffix(text, "}\n"), true)
}

// Rule 1: very many of each thing, and very long texts, are told in time.
func TestMuch(t *testing.T) {
	const n = 1 << 17
	e, m := api.Enum{Name: "E"}, api.Message{Name: "M"}
	for i := range n {
		e.Values = append(e.Values, api.Value{Name: "v", Num: i})
		m.Fields = append(m.Fields, api.Field{Name: "f", Num: 20000 + i, Type: api.TyBool})
		m.Barred = append(m.Barred, i)
	}
	same := func(what, got, want string) {
		t.Helper()
		is(t, what+": as long", len(got), len(want))
		is(t, what+": the same", got == want, true)
	}
	same("values", sprint.Enum(e), enumLines(e))
	same("fields", sprint.Message(m), messageLines(m))
	is(t, "a schema of these", sprint.Text(api.Schema{Enums: []api.Enum{e}, Messages: []api.Message{m}}), "")
	long := strings.Repeat("long", n)
	same("a long name", sprint.Enum(api.Enum{Name: long, Values: []api.Value{{Name: long}}}), "enum "+long+" {\n  "+long+" = 0;\n}\n")
	same("a long oneof", sprint.Message(api.Message{Name: long, Fields: []api.Field{{One: long}}}), "message "+long+" {\n  oneof "+long+" \n}\n")
}

// Rule 3: nothing that is handed in is changed, and the same is answered again.
func TestNothingIsChanged(t *testing.T) {
	r := rand.New(rand.NewSource(173))
	s := good()
	for range 1000 {
		c := schema.Copy(s)
		first := sprint.Text(s)
		for _, e := range s.Enums {
			sprint.Enum(e)
		}
		for _, m := range s.Messages {
			sprint.Message(m)
		}
		if second := sprint.Text(s); second != first || !schema.Same(s, c) || sprint.Text(c) != first {
			t.Fatalf("%s: changed, or told otherwise", about(s))
		}
		s = chance(r)
	}
}

// Rule 3: what stands behind a list, in its room, is none of it, and stays.
func TestRoomBehindLists(t *testing.T) {
	bars := []int{7, 8}
	fields := []api.Field{{Name: "a", Num: 1, Type: api.TyInt32}, {Name: "b", Num: 2, Type: api.TyInt32}}
	values := []api.Value{{Name: "x"}, {Name: "y", Num: 1}}
	messages := []api.Message{{Name: "M", Fields: fields[:1], Barred: bars[:1]}, {Name: "N"}}
	enums := []api.Enum{{Name: "E", Values: values[:1]}, {Name: "F", Values: values[1:]}}
	text := sprint.Text(api.Schema{Enums: enums[:1], Messages: messages[:1]})
	is(t, "Text", text, "enum E {\n  x = 0;\n}\nmessage M {\n  reserved 7;\n  int32 a = 1;\n}\n")
	is(t, "barred", bars[1], 8)
	is(t, "field", fields[1], api.Field{Name: "b", Num: 2, Type: api.TyInt32})
	is(t, "value", values[1], api.Value{Name: "y", Num: 1})
	is(t, "message", messages[1].Name, "N")
	is(t, "enum", enums[1].Name, "F")
}

// Rule 3: what is answered shares nothing with the texts that were handed in.
func TestTextsAreNew(t *testing.T) {
	within := func(s, of string) bool {
		p, at := uintptr(unsafe.Pointer(unsafe.StringData(s))), uintptr(unsafe.Pointer(unsafe.StringData(of)))
		return at <= p && p < at+uintptr(len(of))
	}
	name := strings.Repeat("name", 10)
	is(t, "Enum", within(sprint.Enum(api.Enum{Name: name}), name), false)
	is(t, "Message", within(sprint.Message(api.Message{Name: name}), name), false)
}
