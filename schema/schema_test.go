package schema_test

import (
	"fmt"
	"maps"
	"math"
	"math/rand"
	"reflect"
	"slices"
	"strconv"
	"strings"
	"testing"
	"unsafe"

	"ecdysis/api"
	"ecdysis/field"
	"ecdysis/ident"
	"ecdysis/schema"
)

// good is a schema that may be: the limit of enums, one of which nobody names; a root whose name is above the next message's, which refers to itself, and is referred to; the same names in two enums and in two messages; a number that another message bars; a message that nobody names. It is made anew each time.
func good() api.Schema {
	return api.Schema{
		Enums: []api.Enum{
			{Name: "Color", Values: []api.Value{{Name: "red"}, {Name: "green", Num: 1}, {Name: "blue", Num: 5}}},
			{Name: "Size", Values: []api.Value{{Name: "red"}, {Name: "small", Num: 1 << 20}}},
			{Name: "Unused", Values: []api.Value{{Name: "Color"}}},
		},
		Messages: []api.Message{
			{Name: "Order", Fields: []api.Field{
				{Name: "id", Num: 1, Type: api.TyUint64},
				{Name: "item", Num: 2, Type: api.TyMessage, Ref: "Item", Rep: true},
				{Name: "color", Num: 4, Type: api.TyEnum, Ref: "Color"},
				{Name: "text", Num: 6, Type: api.TyString, One: "pick"},
				{Name: "amount", Num: 7, Type: api.TySint32, One: "pick"},
				{Name: "again", Num: 8, Type: api.TyMessage, Ref: "Order", One: "other"},
				{Name: "tags", Num: 20000, Type: api.TyInt32, Rep: true, Loose: true},
			}, Barred: []int{3, 5, 19000}},
			{Name: "Item", Fields: []api.Field{
				{Name: "id", Num: 1, Type: api.TyInt64},
				{Name: "size", Num: 3, Type: api.TyEnum, Ref: "Size", Rep: true},
				{Name: "next", Num: 4, Type: api.TyMessage, Ref: "Item", One: "pick"},
				{Name: "up", Num: 5, Type: api.TyMessage, Ref: "Order"},
				{Name: "Size", Num: 1<<29 - 1, Type: api.TyBytes},
			}, Barred: []int{2, 7}},
			{Name: "Note"},
		},
	}
}

// small is a schema of one message.
func small(f ...api.Field) api.Schema {
	return api.Schema{Messages: []api.Message{{Name: "M", Fields: f}}}
}

// single is a schema of one message, whose fields have those numbers.
func single(nums ...int) api.Schema {
	s := small()
	for i, n := range nums {
		s.Messages[0].Fields = append(s.Messages[0].Fields, api.Field{Name: "f" + strconv.Itoa(i), Num: n, Type: api.TyInt32})
	}
	return s
}

// chosen is a schema of an enum whose values have those numbers.
func chosen(nums ...int) api.Schema {
	e := api.Enum{Name: "E"}
	for i, n := range nums {
		e.Values = append(e.Values, api.Value{Name: "v" + strconv.Itoa(i), Num: n})
	}
	return api.Schema{Enums: []api.Enum{e}, Messages: []api.Message{{Name: "M"}}}
}

// big is a schema of so many of each thing, all of which may be but for how many they are.
func big(enums, values, messages, fields, bars int) api.Schema {
	var s api.Schema
	for i := range enums {
		s.Enums = append(s.Enums, api.Enum{Name: "E" + strconv.Itoa(i), Values: manyValues(values)})
	}
	for i := range messages {
		s.Messages = append(s.Messages, api.Message{Name: "M" + strconv.Itoa(i), Fields: manyFields(fields), Barred: manyBarred(bars)})
	}
	return s
}

// manyValues is so many values, whose numbers rise.
func manyValues(n int) []api.Value {
	var l []api.Value
	for i := range n {
		l = append(l, api.Value{Name: "v" + strconv.Itoa(i), Num: i * i})
	}
	return l
}

// manyFields is so many fields, whose numbers rise.
func manyFields(n int) []api.Field {
	var l []api.Field
	for i := range n {
		l = append(l, api.Field{Name: "f" + strconv.Itoa(i), Num: 1 + 2*i, Type: api.TyInt32})
	}
	return l
}

// manyBarred is so many numbers, which rise, none of them one of manyFields.
func manyBarred(n int) []int {
	var l []int
	for i := range n {
		l = append(l, 2+2*i)
	}
	return l
}

// errnos is the error of each finding of P15.1, whose fourth one field.Check tells.
var errnos = []api.Errno{0, 4, 5, 2, -1, 6, 1, 6, 5}

// rising tells whether each is below the next one.
func rising[T int | string](l []T) bool {
	return slices.IsSorted(l) && !repeated(l)
}

// repeated tells whether one of them is there twice.
func repeated[T int | string](l []T) bool {
	times := map[T]int{}
	for _, x := range l {
		times[x]++
	}
	return len(times) < len(l)
}

// found is the numbers of all findings of P15.1 that are so of s, each one asked for by itself.
func found(s api.Schema) []int {
	so := map[int]int{}
	find := func(n int, is bool) {
		if is {
			so[n]++
		}
	}
	var titles, enums, others []string
	var messages []string
	find(1, len(s.Enums) > 3 || len(s.Messages) > 6)
	find(2, len(s.Messages) == 0)
	for _, e := range s.Enums {
		enums = append(enums, e.Name)
		find(3, !ident.Right(e.Name))
		find(1, len(e.Values) > 8)
		find(2, len(e.Values) == 0)
		var names []string
		var nums []int
		for i, v := range e.Values {
			names, nums = append(names, v.Name), append(nums, v.Num)
			find(3, !ident.Right(v.Name))
			find(6, i == 0 && v.Num != 0)
			find(6, i == len(e.Values)-1 && v.Num > 1048576)
		}
		find(5, repeated(names))
		find(6, !rising(nums))
	}
	for i, m := range s.Messages {
		messages = append(messages, m.Name)
		if i > 0 {
			others = append(others, m.Name)
		}
	}
	titles = append(append(titles, enums...), messages...)
	find(5, repeated(titles))
	find(6, !rising(enums) || !rising(others))
	for _, m := range s.Messages {
		find(3, !ident.Right(m.Name))
		find(1, len(m.Fields) > 10 || len(m.Barred) > 8)
		find(6, !rising(m.Barred))
		var names []string
		var nums []int
		for _, f := range m.Fields {
			names, nums = append(names, f.Name), append(nums, f.Num)
			find(4, field.Check(f) != 0)
			for _, g := range m.Fields {
				find(5, g.One != "" && g.One == f.Name)
			}
			find(8, f.Type == 14 && !slices.Contains(enums, f.Ref) || f.Type == 15 && !slices.Contains(messages, f.Ref))
		}
		find(5, repeated(names))
		find(6, !rising(nums))
		for _, b := range m.Barred {
			find(6, b < 1 || 536870911 < b)
			find(7, slices.Contains(nums, b))
		}
	}
	return slices.Sorted(maps.Keys(so))
}

// wanted is what Check has to answer, if those are the findings.
func wanted(s api.Schema, l []int) api.Errno {
	if len(l) == 0 {
		return 0
	}
	if l[0] != 4 {
		return errnos[l[0]]
	}
	for _, m := range s.Messages {
		for _, f := range m.Fields {
			if e := field.Check(f); e != 0 {
				return e
			}
		}
	}
	panic("no field is refused")
}

// told is the schema, as a failed test tells it: not all of a very great one.
func told(s api.Schema) string {
	if s := fmt.Sprintf("%#v", s); len(s) < 5000 {
		return s
	}
	return fmt.Sprintf("a schema of %d enums and %d messages", len(s.Enums), len(s.Messages))
}

// checks tells if Check answers something else.
func checks(t *testing.T, s api.Schema, want api.Errno) {
	t.Helper()
	if got := schema.Check(s); got != want {
		t.Errorf("Check(%s): %d; wanted %d", told(s), got, want)
	}
}

// alike tells whether both are the same, nil lists being empty ones, place by place.
func alike(a, b any) bool {
	var same func(a, b reflect.Value) bool
	same = func(a, b reflect.Value) bool {
		switch a.Kind() {
		case reflect.Slice:
			is := a.Len() == b.Len()
			for i := 0; is && i < a.Len(); i++ {
				is = same(a.Index(i), b.Index(i))
			}
			return is
		case reflect.Struct:
			is := true
			for i := range a.NumField() {
				is = is && same(a.Field(i), b.Field(i))
			}
			return is
		}
		return a.Interface() == b.Interface()
	}
	return same(reflect.ValueOf(a), reflect.ValueOf(b))
}

// breaks is changes of good(), each of which makes one finding so, and no other one; those with last set are made last.
var breaks = []struct {
	finding int
	what    string
	last    bool
	change  func(s *api.Schema)
}{
	{1, "a fourth enum", false, func(s *api.Schema) {
		s.Enums = append(s.Enums, api.Enum{Name: "Upper", Values: manyValues(1)})
	}},
	{1, "a seventh message", false, func(s *api.Schema) {
		for _, name := range []string{"Pa", "Pb", "Pc", "Pd"} {
			s.Messages = append(s.Messages, api.Message{Name: name})
		}
	}},
	{1, "nine values", false, func(s *api.Schema) { s.Enums[0].Values = manyValues(9) }},
	{1, "nine values of the last enum", false, func(s *api.Schema) { s.Enums[2].Values = manyValues(9) }},
	{1, "eleven fields", false, func(s *api.Schema) {
		s.Messages[0].Fields = append(manyFields(11), api.Field{Name: "x", Num: 100, Type: api.TyString})
		s.Messages[0].Barred = nil
	}},
	{1, "eleven fields of the last message", false, func(s *api.Schema) { s.Messages[2].Fields = manyFields(11) }},
	{1, "nine barred numbers", false, func(s *api.Schema) { s.Messages[1].Barred = []int{7, 8, 9, 10, 11, 12, 13, 14, 15} }},
	{1, "nine barred numbers of the last message", false, func(s *api.Schema) { s.Messages[2].Barred = manyBarred(9) }},

	{2, "no message", true, func(s *api.Schema) { s.Messages = s.Messages[:0] }},
	{2, "a nil list of messages", true, func(s *api.Schema) { s.Messages = nil }},
	{2, "no value", true, func(s *api.Schema) { s.Enums[0].Values = s.Enums[0].Values[:0] }},
	{2, "a nil list of values", true, func(s *api.Schema) { s.Enums[2].Values = nil }},

	{3, "an enum's name", false, func(s *api.Schema) { s.Enums[2].Name = "to" }},
	{3, "an enum's name with a blank", false, func(s *api.Schema) { s.Enums[2].Name = "Unused " }},
	{3, "an enum's long name", false, func(s *api.Schema) { s.Enums[2].Name = "Unusedunusedu" }},
	{3, "a value's name", false, func(s *api.Schema) { s.Enums[0].Values[0].Name = "1a" }},
	{3, "a value without a name", false, func(s *api.Schema) { s.Enums[0].Values[2].Name = "" }},
	{3, "the last enum's value's name", false, func(s *api.Schema) { s.Enums[2].Values[0].Name = "message" }},
	{3, "a message's name", false, func(s *api.Schema) { s.Messages[2].Name = "_" }},
	{3, "a message's long name", false, func(s *api.Schema) { s.Messages[2].Name = "Notenotenoten" }},

	{4, "a field without a name", false, func(s *api.Schema) { s.Messages[0].Fields[0].Name = "" }},
	{4, "a field's Ref that may not be", false, func(s *api.Schema) { s.Messages[0].Fields[3].Ref = "Item" }},
	{4, "a oneof that is no name", false, func(s *api.Schema) { s.Messages[1].Fields[0].One = "of" }},
	{4, "a field of no type", false, func(s *api.Schema) { s.Messages[0].Fields[6].Type = 0 }},
	{4, "a field of the number 0", false, func(s *api.Schema) { s.Messages[0].Fields[0].Num = 0 }},
	{4, "a field of the number 19000", false, func(s *api.Schema) { s.Messages[1].Fields[4].Num = 19000 }},
	{4, "a Rep field in a oneof", false, func(s *api.Schema) { s.Messages[0].Fields[3].Rep = true }},
	{4, "a Loose field that is not Rep", false, func(s *api.Schema) { s.Messages[1].Fields[4].Loose = true }},

	{5, "the first two messages", false, func(s *api.Schema) {
		s.Messages[1].Name = "Order"
		s.Messages[0].Fields[1].Ref, s.Messages[1].Fields[2].Ref = "Order", "Order"
		s.Messages = s.Messages[:2]
	}},
	{5, "the first message and the last one", false, func(s *api.Schema) { s.Messages[2].Name = "Order" }},
	{5, "an enum and a message", false, func(s *api.Schema) { s.Messages[2].Name = "Size" }},
	{5, "an enum and another message", false, func(s *api.Schema) {
		s.Messages[2].Name = "Unused"
	}},
	{5, "two values", false, func(s *api.Schema) { s.Enums[0].Values[1].Name = "red" }},
	{5, "the first value and the last one", false, func(s *api.Schema) { s.Enums[0].Values[2].Name = "red" }},
	{5, "two values of a later enum", false, func(s *api.Schema) { s.Enums[1].Values[0].Name = "small" }},
	{5, "two fields", false, func(s *api.Schema) { s.Messages[0].Fields[0].Name = "item" }},
	{5, "the first field and the last one", false, func(s *api.Schema) { s.Messages[0].Fields[6].Name = "id" }},
	{5, "two fields of a later message", false, func(s *api.Schema) { s.Messages[1].Fields[4].Name = "next" }},
	{5, "a field and a oneof", false, func(s *api.Schema) { s.Messages[0].Fields[0].Name = "other" }},
	{5, "a field and a oneof of fields ahead of it", false, func(s *api.Schema) { s.Messages[0].Fields[6].Name = "pick" }},
	{5, "a field and the oneof that it is in", false, func(s *api.Schema) { s.Messages[1].Fields[2].Name = "pick" }},

	{6, "two enums that do not rise", false, func(s *api.Schema) { s.Enums[0], s.Enums[1] = s.Enums[1], s.Enums[0] }},
	{6, "the last enum ahead of all", false, func(s *api.Schema) { s.Enums[2].Name = "C" }},
	{6, "two messages that do not rise", false, func(s *api.Schema) { s.Messages[1], s.Messages[2] = s.Messages[2], s.Messages[1] }},
	{6, "fields that do not rise", false, func(s *api.Schema) { s.Messages[0].Fields[0].Num = 9 }},
	{6, "the last field ahead of all", false, func(s *api.Schema) { s.Messages[1].Fields[0].Num = 10 }},
	{6, "two fields of one number", false, func(s *api.Schema) { s.Messages[0].Fields[1].Num = 1 }},
	{6, "the last two fields of one number", false, func(s *api.Schema) { s.Messages[1].Fields[4].Num = 5 }},
	{6, "barred numbers that do not rise", false, func(s *api.Schema) { s.Messages[0].Barred = []int{5, 3} }},
	{6, "a barred number that is there twice", false, func(s *api.Schema) { s.Messages[0].Barred = []int{3, 5, 5} }},
	{6, "barred numbers of a later message that do not rise", false, func(s *api.Schema) { s.Messages[2].Barred = []int{1, 3, 2} }},
	{6, "a barred number 0", false, func(s *api.Schema) { s.Messages[0].Barred = []int{0, 3} }},
	{6, "a barred number below 0", false, func(s *api.Schema) { s.Messages[2].Barred = []int{math.MinInt} }},
	{6, "a barred number above MaxNum", false, func(s *api.Schema) { s.Messages[1].Barred = []int{2, 1 << 29} }},
	{6, "the greatest barred number", false, func(s *api.Schema) { s.Messages[2].Barred = []int{math.MaxInt} }},
	{6, "values that do not rise", false, func(s *api.Schema) { s.Enums[0].Values[1].Num = 6 }},
	{6, "two values of one number", false, func(s *api.Schema) { s.Enums[0].Values[2].Num = 1 }},
	{6, "a second value 0", false, func(s *api.Schema) { s.Enums[1].Values[1].Num = 0 }},
	{6, "a first value 1", false, func(s *api.Schema) { s.Enums[2].Values[0].Num = 1 }},
	{6, "a first value below 0", false, func(s *api.Schema) { s.Enums[0].Values[0].Num = -1 }},
	{6, "a last value above 2^20", false, func(s *api.Schema) { s.Enums[1].Values[1].Num = 1<<20 + 1 }},
	{6, "the greatest last value", false, func(s *api.Schema) { s.Enums[0].Values[2].Num = math.MaxInt }},

	{7, "the first field's number", false, func(s *api.Schema) { s.Messages[0].Barred = []int{1, 3} }},
	{7, "the last field's number", false, func(s *api.Schema) { s.Messages[0].Barred = []int{3, 20000} }},
	{7, "a field in the midst, the last barred number", false, func(s *api.Schema) { s.Messages[0].Fields[2].Num = 5 }},
	{7, "a later message's field", false, func(s *api.Schema) { s.Messages[1].Fields[1].Num = 2 }},
	{7, "a later message's last field", false, func(s *api.Schema) { s.Messages[1].Barred = []int{2, 1<<29 - 1} }},

	{8, "no enum of that name", false, func(s *api.Schema) { s.Messages[0].Fields[2].Ref = "color" }},
	{8, "an enum that is a message", false, func(s *api.Schema) { s.Messages[0].Fields[2].Ref = "Item" }},
	{8, "a message that is an enum", false, func(s *api.Schema) { s.Messages[0].Fields[1].Ref = "Color" }},
	{8, "no message of that name", false, func(s *api.Schema) { s.Messages[0].Fields[5].Ref = "Orders" }},
	{8, "a later message's enum that is a field", false, func(s *api.Schema) { s.Messages[1].Fields[1].Ref = "size" }},
	{8, "a later message's message that is a value", false, func(s *api.Schema) { s.Messages[1].Fields[3].Ref = "red" }},
}

// P15.1: the chapter's example.
func TestExample(t *testing.T) {
	checks(t, small(api.Field{Name: "a", Num: 1, Type: api.TyMessage, Ref: "M"}), api.OK)
}

// P15.1: schemas that may be.
func TestGood(t *testing.T) {
	checks(t, good(), api.OK)
	checks(t, small(), api.OK)
	checks(t, big(3, 8, 6, 10, 8), api.OK)
	for n := range 7 {
		checks(t, big(min(n, 3), n+1, max(n, 1), n, n), api.OK)
	}
	if l := found(good()); len(l) > 0 {
		t.Errorf("the findings %v", l)
	}
}

// P15.1: wrong inputs: nothing at all, nil lists, empty ones.
func TestNothing(t *testing.T) {
	checks(t, api.Schema{}, api.ErrNone)
	checks(t, api.Schema{Enums: []api.Enum{}, Messages: []api.Message{}}, api.ErrNone)
	checks(t, api.Schema{Enums: good().Enums}, api.ErrNone)
	checks(t, api.Schema{Messages: good().Messages[2:]}, api.OK)
	checks(t, api.Schema{Enums: []api.Enum{}, Messages: []api.Message{{Name: "M", Fields: []api.Field{}, Barred: []int{}}}}, api.OK)
	checks(t, api.Schema{Messages: []api.Message{{}}}, api.ErrText)
	checks(t, api.Schema{Enums: []api.Enum{{}}, Messages: []api.Message{{}}}, api.ErrNone)
	checks(t, api.Schema{Enums: []api.Enum{{Values: []api.Value{{}}}}, Messages: []api.Message{{Name: "M"}}}, api.ErrText)
	checks(t, small(api.Field{}), api.ErrText)
	checks(t, small(api.Field{Name: "a"}), api.ErrArg)
}

// P15.1: each finding by itself.
func TestFindings(t *testing.T) {
	seen := map[int]int{}
	for _, b := range breaks {
		s := good()
		b.change(&s)
		if l := found(s); !slices.Equal(l, []int{b.finding}) {
			t.Fatalf("%s: the findings %v; wanted %d alone", b.what, l, b.finding)
		}
		if got, want := schema.Check(s), wanted(s, []int{b.finding}); got != want {
			t.Errorf("%d, %s: %d; wanted %d", b.finding, b.what, got, want)
		}
		seen[b.finding]++
	}
	if len(seen) != 8 {
		t.Errorf("of the eight findings only %v", seen)
	}
}

// done tells whether the change could be made: one made ahead of it may have taken away what it would change.
func done(change func(*api.Schema), s *api.Schema) (ok bool) {
	defer func() { ok = recover() == nil }()
	change(s)
	return
}

// P15.1: two findings at once, of every two: the earlier one is told.
func TestTwoFindings(t *testing.T) {
	pairs := map[[2]int]int{}
	for _, a := range breaks {
		for _, b := range breaks {
			if a.last || a.finding == b.finding {
				continue
			}
			s := good()
			a.change(&s)
			if !done(b.change, &s) {
				continue
			}
			l := found(s)
			if slices.Equal(l, []int{min(a.finding, b.finding), max(a.finding, b.finding)}) {
				pairs[[2]int(l)]++
			}
			if got, want := schema.Check(s), wanted(s, l); got != want {
				t.Errorf("%d, %s, and %d, %s: %d; wanted %d", a.finding, a.what, b.finding, b.what, got, want)
			}
		}
	}
	for i := 1; i <= 8; i++ {
		for j := i + 1; j <= 8; j++ {
			if pairs[[2]int{i, j}] < 5 {
				t.Errorf("the findings %d and %d at once: %d times", i, j, pairs[[2]int{i, j}])
			}
		}
	}
}

// P15.1: the findings one behind the other, by hand: the schema that has all of them, mended one by one.
func TestMendedOneByOne(t *testing.T) {
	s := api.Schema{
		Enums: []api.Enum{{Name: "to", Values: []api.Value{{Name: "a"}, {Name: "b", Num: 1}}}, {Name: "E"}},
		Messages: []api.Message{{Name: "M", Fields: []api.Field{
			{Name: "a", Num: 2, Type: api.TyBool, Rep: true, One: "o"},
			{Name: "a", Num: 2, Type: api.TyEnum, Ref: "Z"},
		}, Barred: []int{2, 3, 4, 5, 6, 7, 8, 9, 10}}},
	}
	checks(t, s, api.ErrMany)
	s.Messages[0].Barred = s.Messages[0].Barred[:8]
	checks(t, s, api.ErrNone)
	s.Enums[1].Values = []api.Value{{Name: "a"}}
	checks(t, s, api.ErrText)
	s.Enums[0].Name = "W"
	checks(t, s, api.ErrArg)
	s.Messages[0].Fields[0].Rep = false
	checks(t, s, api.ErrThere)
	s.Messages[0].Fields[1].Name = "b"
	checks(t, s, api.ErrArg)
	s.Messages[0].Fields[0].Num = 1
	checks(t, s, api.ErrArg)
	s.Enums[0].Name, s.Enums[1].Name = "E", "W"
	checks(t, s, api.ErrThere)
	s.Messages[0].Barred = s.Messages[0].Barred[1:]
	checks(t, s, api.ErrNone)
	s.Messages[0].Fields[1].Ref = "W"
	checks(t, s, api.OK)
}

// P15.1: so much of each thing, and one more, in each enum and each message.
func TestLimits(t *testing.T) {
	checks(t, big(3, 8, 6, 10, 8), api.OK)
	checks(t, big(4, 8, 6, 10, 8), api.ErrMany)
	checks(t, big(4, 1, 1, 0, 0), api.ErrMany)
	checks(t, big(3, 9, 6, 10, 8), api.ErrMany)
	checks(t, big(3, 8, 7, 10, 8), api.ErrMany)
	checks(t, big(0, 0, 7, 0, 0), api.ErrMany)
	checks(t, big(3, 8, 6, 11, 8), api.ErrMany)
	checks(t, big(3, 8, 6, 10, 9), api.ErrMany)
	for i := range 3 {
		s := big(3, 8, 6, 10, 8)
		s.Enums[i].Values = manyValues(9)
		checks(t, s, api.ErrMany)
		s.Enums[i].Values = manyValues(1)
		checks(t, s, api.OK)
		s.Enums[i].Values = nil
		checks(t, s, api.ErrNone)
	}
	for i := range 6 {
		s := big(3, 8, 6, 10, 8)
		s.Messages[i].Fields = manyFields(11)
		checks(t, s, api.ErrMany)
		s.Messages[i].Fields = nil
		checks(t, s, api.OK)
		s.Messages[i].Barred = manyBarred(9)
		checks(t, s, api.ErrMany)
		s.Messages[i].Barred = nil
		checks(t, s, api.OK)
	}
	// Too much of all: nothing else of it is asked.
	checks(t, api.Schema{Enums: make([]api.Enum, 1<<20)}, api.ErrMany)
	checks(t, api.Schema{Messages: make([]api.Message, 1<<20)}, api.ErrMany)
	checks(t, small(make([]api.Field, 1<<20)...), api.ErrMany)
	checks(t, api.Schema{Enums: []api.Enum{{Values: make([]api.Value, 1<<20)}}}, api.ErrMany)
	checks(t, api.Schema{Messages: []api.Message{{Barred: make([]int, 1<<20)}}}, api.ErrMany)
}

// P15.1: names, and what is none, of enums, of values and of messages.
func TestNames(t *testing.T) {
	named := func(enum, value, first, second string) api.Schema {
		return api.Schema{
			Enums:    []api.Enum{{Name: enum, Values: []api.Value{{Name: "v"}, {Name: value, Num: 1}}}},
			Messages: []api.Message{{Name: first}, {Name: second}},
		}
	}
	for _, s := range []string{"a", "Z", "a_1", "a_", "abcdefghijkl", "Message", "To", "int16", "trues"} {
		checks(t, named(s, "x", "M", "N"), api.OK)
		checks(t, named("E", s, "M", "N"), api.OK)
		checks(t, named("E", "x", s, "N"), api.OK)
		checks(t, named("E", "x", "M", s), api.OK)
		checks(t, named(s, s, "M", "N"), api.OK)
		checks(t, named("E", s, s, "N"), api.OK)
		checks(t, named(s, "x", s, "N"), api.ErrThere)
		checks(t, named(s, "x", "M", s), api.ErrThere)
		checks(t, named("E", "x", s, s), api.ErrThere)
		checks(t, named("E", "v", s, "N"), api.ErrThere)
	}
	for _, s := range []string{
		"", "_", "1", "1a", "_a", "a-b", "a b", " a", "a ", "a\n", "a\x00", "abcdefghijklm", "a\u00e9", "\u00e9", "\xff", "a\xff",
		"enum", "message", "oneof", "reserved", "int32", "bytes", "to", "of", "true", strings.Repeat("a", 1<<20),
	} {
		for _, bad := range []api.Schema{named(s, "x", "M", "N"), named("E", s, "M", "N"), named("E", "x", s, "N"), named("E", "x", "M", s), named(s, s, s, s)} {
			checks(t, bad, api.ErrText)
			bad.Enums[0].Values[0].Num = 7
			bad.Messages[0].Fields = []api.Field{{Name: "a", Num: 0, Type: 0}}
			checks(t, bad, api.ErrText)
		}
	}
}

// P15.1: of two fields that field.Check refuses, the first one's error, message by message.
func TestRefusedFields(t *testing.T) {
	text := api.Field{Name: "1a", Num: 1, Type: api.TyInt32}
	arg := api.Field{Name: "a", Num: 1, Type: 77}
	both := api.Field{Name: "1a", Num: 0, Type: 77}
	checks(t, small(text), api.ErrText)
	checks(t, small(arg), api.ErrArg)
	checks(t, small(both), api.ErrText)
	checks(t, small(text, arg), api.ErrText)
	checks(t, small(arg, text), api.ErrArg)
	checks(t, small(arg, both), api.ErrArg)
	for _, f := range []api.Field{
		{Name: "a", Num: 1, Type: api.TyEnum},
		{Name: "a", Num: 1, Type: api.TyMessage},
		{Name: "a", Num: 1, Type: api.TyInt32, Ref: "M"},
		{Name: "a", Num: 1, Type: api.TyInt32, One: "1a"},
		{Name: "a", Num: 1, Type: api.TyMessage, Ref: "1a"},
	} {
		checks(t, small(f), api.ErrText)
	}
	for _, f := range []api.Field{
		{Name: "a", Num: -1, Type: api.TyInt32},
		{Name: "a", Num: 19000, Type: api.TyInt32},
		{Name: "a", Num: 19999, Type: api.TyInt32},
		{Name: "a", Num: 1 << 29, Type: api.TyInt32},
		{Name: "a", Num: math.MaxInt, Type: api.TyInt32},
		{Name: "a", Num: 1, Type: 16},
		{Name: "a", Num: 1, Type: api.TyInt32, Rep: true, One: "a"},
		{Name: "a", Num: 1, Type: api.TyString, Rep: true, Loose: true},
	} {
		checks(t, small(f), api.ErrArg)
	}
	// Two of them, at each two places of a schema.
	for i := range 60 {
		for j := range i {
			s := big(3, 8, 6, 10, 8)
			s.Messages[j/10].Fields[j%10].Name = "to"
			s.Messages[i/10].Fields[i%10].Type = 0
			checks(t, s, api.ErrText)
			s = big(3, 8, 6, 10, 8)
			s.Messages[j/10].Fields[j%10].Type = 0
			s.Messages[i/10].Fields[i%10].Name = "to"
			checks(t, s, api.ErrArg)
		}
	}
}

// P15.1: names that are there twice where they may be there once, and where they may be there as often as they like.
func TestTwice(t *testing.T) {
	// Those of enums and of messages, each with each.
	for i := range 9 {
		for j := range i {
			s := big(3, 8, 6, 10, 8)
			name := func(n int) *string {
				if n < 3 {
					return &s.Enums[n].Name
				}
				return &s.Messages[n-3].Name
			}
			*name(i) = *name(j)
			checks(t, s, api.ErrThere)
		}
	}
	// Those of an enum's values, and of a message's fields and oneofs.
	for i := range 10 {
		for j := range 10 {
			s := big(3, 8, 6, 10, 8)
			if i != j {
				s.Messages[5].Fields[i].Name = s.Messages[5].Fields[j].Name
				checks(t, s, api.ErrThere)
			}
			s = big(3, 8, 6, 10, 8)
			s.Messages[4].Fields[i].One = s.Messages[4].Fields[j].Name
			checks(t, s, api.ErrThere)
			if i != j && i < 8 && j < 8 {
				s = big(3, 8, 6, 10, 8)
				s.Enums[2].Values[i].Name = s.Enums[2].Values[j].Name
				checks(t, s, api.ErrThere)
			}
		}
	}
	// All fields in one oneof, whose name is a message's, an enum's, a value's, and another message's field's.
	for _, one := range []string{"o", "M0", "M1", "E0", "v0", "x"} {
		s := big(3, 8, 6, 10, 8)
		s.Messages[1].Fields[0].Name = "x"
		for i := range s.Messages[0].Fields {
			s.Messages[0].Fields[i].One = one
		}
		checks(t, s, api.OK)
	}
	// Names of one kind are nothing to those of another one.
	s := good()
	s.Enums[0].Values[0].Name, s.Enums[0].Values[1].Name, s.Messages[0].Fields[0].Name, s.Messages[0].Fields[6].Name = "Color", "Order", "Order", "Color"
	checks(t, s, api.OK)
}

// P15.1: in what order enums and messages stand; the root stands first, whatever its name.
func TestOrder(t *testing.T) {
	ordered := func(enums, messages string) api.Schema {
		var s api.Schema
		for _, name := range strings.Fields(enums) {
			s.Enums = append(s.Enums, api.Enum{Name: name, Values: []api.Value{{Name: "v"}}})
		}
		for _, name := range strings.Fields(messages) {
			s.Messages = append(s.Messages, api.Message{Name: name})
		}
		return s
	}
	for _, m := range []string{"a b c", "b a c", "c a b", "z B_ Ba a aa b", "a B", "x A1 A2 A_ Aa", "b"} {
		checks(t, ordered("E", m), api.OK)
	}
	for _, m := range []string{"a c b", "b c a", "c b a", "a b c d f e", "a c b d e f", "x a B", "x aa a", "x A_ A1"} {
		checks(t, ordered("E", m), api.ErrArg)
	}
	for _, e := range []string{"", "a", "a b c", "A a", "Z a", "A1 A_ Aa", "a aa b"} {
		checks(t, ordered(e, "M"), api.OK)
	}
	for _, e := range []string{"b a", "a c b", "b a c", "c b a", "a B", "aa a", "b c a"} {
		checks(t, ordered(e, "M"), api.ErrArg)
	}
	for _, e := range []string{"a a", "a b b", "a b a"} {
		checks(t, ordered(e, "M"), api.ErrThere)
	}
	for _, m := range []string{"a a", "b b a", "a b b", "a b a", "a c d c"} {
		checks(t, ordered("E", m), api.ErrThere)
	}
}

// P15.1: the numbers of fields, barred numbers, and those of values.
func TestNumbers(t *testing.T) {
	for _, l := range [][]int{{1}, {1, 2}, {2, 4, 7}, {1, 18999, 20000, 1<<29 - 1}, {1<<29 - 2, 1<<29 - 1}} {
		checks(t, single(l...), api.OK)
	}
	for _, l := range [][]int{{1, 1}, {2, 1}, {1, 3, 2}, {2, 3, 3}, {3, 1, 2}, {1<<29 - 1, 1<<29 - 2}, {1, 2, 3, 4, 5, 6, 7, 8, 10, 9}} {
		checks(t, single(l...), api.ErrArg)
	}
	bars := func(l ...int) api.Schema {
		s := small(api.Field{Name: "a", Num: 4, Type: api.TyInt32})
		s.Messages[0].Barred = l
		return s
	}
	for _, l := range [][]int{{}, {1}, {1, 2, 3}, {19000, 19001, 19999}, {3, 5}, {1<<29 - 1}, {1, 1<<29 - 1}} {
		checks(t, bars(l...), api.OK)
	}
	for _, l := range [][]int{
		{0}, {0, 1}, {-1}, {math.MinInt}, {1 << 29}, {1, 1 << 29}, {1, 2, math.MaxInt}, {1, 1}, {2, 1}, {1, 3, 2}, {1, 2, 3, 3}, {3, 1, 2}, {1<<29 - 1, 1},
		{4, 0}, {4, 4}, {5, 4}, {0, 4}, {4, 1 << 29},
	} {
		checks(t, bars(l...), api.ErrArg)
	}
	for _, l := range [][]int{{4}, {1, 4}, {4, 5}, {1, 4, 1<<29 - 1}, {1, 2, 3, 4, 5, 6, 7, 8}} {
		checks(t, bars(l...), api.ErrThere)
	}
	for _, l := range [][]int{{0}, {0, 1}, {0, 2, 5}, {0, 1 << 20}, {0, 1<<20 - 1, 1 << 20}} {
		checks(t, chosen(l...), api.OK)
	}
	for _, l := range [][]int{
		{1}, {-1}, {1, 2}, {-1, 0}, {0, 0}, {0, 2, 1}, {0, 1, 1}, {1, 0}, {0, 1<<20 + 1}, {0, 1, 1 << 30}, {0, math.MaxInt}, {math.MinInt}, {math.MinInt, math.MaxInt},
		{0, -1}, {0, math.MinInt}, {1 << 20}, {1<<20 + 1}, {0, 1 << 21, 1 << 20}, {0, 5, 4, 6}, {0, 1 << 32},
	} {
		checks(t, chosen(l...), api.ErrArg)
	}
}

// P15.1: each field's number, barred in its own message, and in another one.
func TestBarred(t *testing.T) {
	for i := range 6 {
		for j := range 10 {
			for k := range 6 {
				s := big(3, 8, 6, 10, 0)
				for n := range s.Messages[k].Fields {
					s.Messages[k].Fields[n].Num += 100
				}
				s.Messages[i].Barred = []int{s.Messages[i].Fields[j].Num}
				checks(t, s, api.ErrThere)
				s.Messages[i].Barred = []int{s.Messages[i].Fields[j].Num ^ 1<<10}
				checks(t, s, api.OK)
				if k != i {
					s.Messages[i].Barred = []int{s.Messages[k].Fields[j].Num}
					checks(t, s, api.OK)
				}
			}
		}
	}
}

// P15.1: what a field refers to, at each place.
func TestRefs(t *testing.T) {
	refer := func(i, j, ty int, ref string) api.Schema {
		s := big(3, 8, 6, 10, 8)
		f := &s.Messages[i].Fields[j]
		f.Type, f.Ref = ty, ref
		return s
	}
	for i := range 6 {
		for j := range 10 {
			for _, ref := range []string{"E0", "E1", "E2"} {
				checks(t, refer(i, j, api.TyEnum, ref), api.OK)
				checks(t, refer(i, j, api.TyMessage, ref), api.ErrNone)
			}
			for _, ref := range []string{"M0", "M1", "M2", "M3", "M4", "M5"} {
				checks(t, refer(i, j, api.TyMessage, ref), api.OK)
				checks(t, refer(i, j, api.TyEnum, ref), api.ErrNone)
			}
			for _, ref := range []string{"E3", "M6", "E", "M", "e0", "m0", "f0", "v0", "E00", "M00"} {
				checks(t, refer(i, j, api.TyMessage, ref), api.ErrNone)
				checks(t, refer(i, j, api.TyEnum, ref), api.ErrNone)
			}
			checks(t, refer(i, j, api.TyMessage, ""), api.ErrText)
			checks(t, refer(i, j, api.TyEnum, ""), api.ErrText)
		}
	}
}

// pick is one of them, by chance.
func pick[T any](r *rand.Rand, l ...T) T {
	return l[r.Intn(len(l))]
}

// chance is a schema by chance, with a fault here and there: about the more, the greater odds is.
func chance(r *rand.Rand, odds float64) api.Schema {
	odd := func() bool { return r.Float64() < odds }
	number := func(n int) int {
		if odd() {
			return pick(r, n-1, n-2, 0, -1, 1, 1<<20, 1<<20+1, 19000, 1<<29-1, 1<<29, math.MinInt, math.MaxInt)
		}
		return n
	}
	name := func(s string) string {
		if odd() {
			return pick(r, "", "A", "B", "a", "b", "o", "E0", "M0", "M1", "to", "1a", "abcdefghijklm")
		}
		return s
	}
	many := func(least, most int) int {
		if odd() {
			return pick(r, max(least-1, 0), least, most, most+1)
		}
		return least + r.Intn(most-least+1)
	}
	var s api.Schema
	for i := range many(0, api.MaxEnums) {
		e := api.Enum{Name: name("E" + strconv.Itoa(i))}
		at := 0
		for j := range many(1, api.MaxValues) {
			e.Values = append(e.Values, api.Value{Name: name("v" + strconv.Itoa(j)), Num: number(at)})
			at += 1 + r.Intn(3)
		}
		s.Enums = append(s.Enums, e)
	}
	messages := many(1, api.MaxMessages)
	for i := range messages {
		m := api.Message{Name: name("M" + strconv.Itoa(i))}
		at := 0
		for j := range many(0, api.MaxFields) {
			at += 1 + r.Intn(3)
			f := api.Field{Name: name("f" + strconv.Itoa(j)), Num: number(at), Type: 1 + r.Intn(15), Rep: r.Intn(4) == 0}
			if f.Type == api.TyEnum && len(s.Enums) == 0 {
				f.Type = api.TyBool
			}
			switch f.Type {
			case api.TyEnum:
				f.Ref = name(s.Enums[r.Intn(len(s.Enums))].Name)
			case api.TyMessage:
				f.Ref = name("M" + strconv.Itoa(r.Intn(max(messages, 1))))
			}
			if !f.Rep && r.Intn(3) == 0 {
				f.One = name("o")
			}
			if odd() {
				f.Type = pick(r, 0, 16, api.TyEnum, api.TyMessage, api.TyInt32)
			}
			if odd() {
				f.Loose = true
			}
			m.Fields = append(m.Fields, f)
		}
		at = 100
		if odd() {
			at = 0
		}
		for range many(0, api.MaxBarred) {
			at += 1 + r.Intn(3)
			m.Barred = append(m.Barred, number(at))
		}
		s.Messages = append(s.Messages, m)
	}
	if odd() {
		r.Shuffle(len(s.Enums), func(i, j int) { s.Enums[i], s.Enums[j] = s.Enums[j], s.Enums[i] })
	}
	if odd() {
		r.Shuffle(len(s.Messages), func(i, j int) { s.Messages[i], s.Messages[j] = s.Messages[j], s.Messages[i] })
	}
	return s
}

// P15.1: schemas by chance, with findings of all kinds, many at once.
func TestByChance(t *testing.T) {
	r := rand.New(rand.NewSource(15))
	first, together := map[int]int{}, map[int]int{}
	const tries = 60000
	for i := range tries {
		s := chance(r, []float64{0, 0.002, 0.005, 0.01, 0.03, 0.1}[i%6])
		l := found(s)
		if got, want := schema.Check(s), wanted(s, l); got != want {
			t.Fatalf("Check(%s): %d; wanted %d: the findings %v", told(s), got, want, l)
		}
		if len(l) == 0 {
			l = []int{0}
		}
		first[l[0]]++
		together[len(l)]++
	}
	for n := range 9 {
		if first[n] < tries/500 {
			t.Errorf("the material is poor: the finding %d was the first one %d times", n, first[n])
		}
	}
	for n := 1; n <= 5; n++ {
		if together[n] < tries/500 {
			t.Errorf("the material is poor: %d findings at once %d times", n, together[n])
		}
	}
}

// places is each place of the schema: what it is called, and a function that changes that place alone.
func places(s *api.Schema) (names []string, changes []func()) {
	put := func(name string, change func()) {
		names, changes = append(names, name), append(changes, change)
	}
	var walk func(name string, v reflect.Value)
	walk = func(name string, v reflect.Value) {
		switch v.Kind() {
		case reflect.Struct:
			for i := range v.NumField() {
				walk(name+"."+v.Type().Field(i).Name, v.Field(i))
			}
		case reflect.Slice:
			put(name+", one more", func() { v.Set(reflect.Append(v, reflect.Zero(v.Type().Elem()))) })
			if v.Len() > 0 {
				put(name+", one less", func() { v.Set(v.Slice(0, v.Len()-1)) })
			}
			for i := range v.Len() {
				walk(fmt.Sprintf("%s[%d]", name, i), v.Index(i))
			}
			if v.Len() > 1 {
				put(name+", the other way round", func() {
					swap := reflect.Swapper(v.Interface())
					swap(0, v.Len()-1)
				})
			}
		case reflect.String:
			put(name+", longer", func() { v.SetString(v.String() + "x") })
			put(name+", another one", func() { v.SetString("q" + v.String()) })
			if v.Len() > 0 {
				put(name+", gone", func() { v.SetString("") })
			}
		case reflect.Int:
			put(name+", one more", func() { v.SetInt(v.Int() + 1) })
			put(name+", another one", func() { v.SetInt(v.Int() ^ 1<<32) })
		case reflect.Bool:
			put(name, func() { v.SetBool(!v.Bool()) })
		default:
			panic(v.Kind())
		}
	}
	walk("", reflect.ValueOf(s).Elem())
	return names, changes
}

// same tells if Same of both, either way, is something else.
func same(t *testing.T, what string, a, b api.Schema, want bool) {
	t.Helper()
	if schema.Same(a, b) != want || schema.Same(b, a) != want {
		t.Errorf("%s: Same(%s, %s): %t", what, told(a), told(b), !want)
	}
}

// P15.2: schemas that are unlike in one place alone, for every place.
func TestUnlikeInOnePlace(t *testing.T) {
	s := good()
	names, _ := places(&s)
	// Of enums 3 and 6 values, of messages 3, 12 fields and 5 barred numbers, with all that they have.
	if len(names) < 12*14+5*2+6*4 {
		t.Fatalf("only %d places", len(names))
	}
	for i, name := range names {
		s := good()
		_, changes := places(&s)
		changes[i]()
		if alike(s, good()) {
			t.Fatalf("%s: nothing is changed", name)
		}
		same(t, name, s, good(), false)
		same(t, name, s, s, true)
		again := good()
		_, changes = places(&again)
		changes[i]()
		same(t, name, s, again, true)
	}
}

// P15.2: nil lists are empty ones; and empty ones are no others.
func TestNilLists(t *testing.T) {
	empty := func() api.Schema { return api.Schema{Enums: []api.Enum{}, Messages: []api.Message{}} }
	same(t, "both empty", api.Schema{}, empty(), true)
	same(t, "both nil", api.Schema{}, api.Schema{}, true)
	same(t, "nil enums", api.Schema{Messages: []api.Message{}}, api.Schema{Enums: []api.Enum{}}, true)
	inner := api.Schema{Enums: []api.Enum{{Name: "E"}}, Messages: []api.Message{{Name: "M"}}}
	within := api.Schema{Enums: []api.Enum{{Name: "E", Values: []api.Value{}}}, Messages: []api.Message{{Name: "M", Fields: []api.Field{}, Barred: []int{}}}}
	same(t, "nil lists within", inner, within, true)
	same(t, "nothing, and something", api.Schema{}, inner, false)
	same(t, "nothing, and an empty enum", api.Schema{}, api.Schema{Enums: make([]api.Enum, 1)}, false)
	same(t, "nothing, and an empty message", empty(), api.Schema{Messages: make([]api.Message, 1)}, false)
	within.Enums[0].Values = make([]api.Value, 1)
	same(t, "no value, and an empty one", inner, within, false)
	within.Enums[0].Values, within.Messages[0].Fields = nil, make([]api.Field, 1)
	same(t, "no field, and an empty one", inner, within, false)
	within.Messages[0].Fields, within.Messages[0].Barred = nil, make([]int, 1)
	same(t, "no barred number, and 0", inner, within, false)
	for _, s := range []api.Schema{{}, empty(), inner, within, good()} {
		same(t, "a copy", s, schema.Copy(s), true)
	}
}

// P15.2: schemas by chance, also such as may not be, held against one another, and copied.
func TestSameByChance(t *testing.T) {
	r := rand.New(rand.NewSource(152))
	last := good()
	times := 0
	const tries = 8000
	for i := range tries {
		s := chance(r, []float64{0, 0.01, 0.1, 0.5, 1}[i%5])
		c := schema.Copy(s)
		if !alike(s, c) {
			t.Fatalf("Copy(%s): %s", told(s), told(c))
		}
		same(t, "a copy", s, c, true)
		same(t, "two by chance", s, last, alike(s, last))
		_, changes := places(&c)
		changes[r.Intn(len(changes))]()
		if !alike(s, c) {
			times++
		}
		same(t, "one changed", s, c, alike(s, c))
		if e := schema.Check(s); schema.Check(schema.Copy(s)) != e {
			t.Fatalf("Check(%s): %d, and of its copy another one", told(s), e)
		}
		last = s
	}
	if times < tries*9/10 {
		t.Errorf("the material is poor: %d are unlike", times)
	}
}

// P15.2: a copy, changed in every place: the first one stays as it was, and the other way round.
func TestCopy(t *testing.T) {
	first := good()
	names, _ := places(&first)
	for i, name := range names {
		s := good()
		c := schema.Copy(s)
		_, changes := places(&c)
		changes[i]()
		if !alike(s, good()) || alike(c, good()) {
			t.Fatalf("%s of the copy: the first one is %s, the copy %s", name, told(s), told(c))
		}
		c = schema.Copy(s)
		_, changes = places(&s)
		changes[i]()
		if !alike(c, good()) || alike(s, good()) {
			t.Fatalf("%s: the first one is %s, the copy %s", name, told(s), told(c))
		}
	}
}

// P15.2: a copy that has all places changed, one behind the other.
func TestCopyChangedAllOver(t *testing.T) {
	s := good()
	c := schema.Copy(s)
	_, changes := places(&c)
	for _, change := range changes {
		change()
	}
	if !alike(s, good()) {
		t.Errorf("the first one is %s", told(s))
	}
	again := schema.Copy(s)
	_, changes = places(&s)
	for _, change := range changes {
		change()
	}
	if !alike(again, good()) {
		t.Errorf("the copy is %s", told(again))
	}
}

// roomy is the schema with room behind each list, in which there is something.
func roomy(s api.Schema) api.Schema {
	s = api.Schema{Enums: room(s.Enums), Messages: room(s.Messages)}
	for i := range s.Enums {
		s.Enums[i].Values = room(s.Enums[i].Values)
	}
	for i := range s.Messages {
		s.Messages[i].Fields, s.Messages[i].Barred = room(s.Messages[i].Fields), room(s.Messages[i].Barred)
	}
	return s
}

// room is the list, cut out of a longer one.
func room[T any](l []T) []T {
	long := append(slices.Clone(l), make([]T, 3)...)
	return long[:len(l)]
}

// P15.2: what is put behind a copy's lists is not put behind those of the first one, nor behind one another.
func TestCopyHasItsOwnRoom(t *testing.T) {
	s := roomy(good())
	c := schema.Copy(s)
	c.Enums = append(c.Enums, api.Enum{Name: "new"})
	c.Messages = append(c.Messages, api.Message{Name: "new"})
	for i := range good().Enums {
		c.Enums[i].Values = append(c.Enums[i].Values, api.Value{Name: "new"})
	}
	for i := range good().Messages {
		c.Messages[i].Fields = append(c.Messages[i].Fields, api.Field{Name: "new"})
		c.Messages[i].Barred = append(c.Messages[i].Barred, 77)
	}
	if !alike(s, good()) {
		t.Fatalf("the first one is %s", told(s))
	}
	long := api.Schema{Enums: s.Enums[:4], Messages: s.Messages[:4]}
	if !alike(long.Enums[3], api.Enum{}) || !alike(long.Messages[3], api.Message{}) {
		t.Errorf("behind the first one stands %s", told(long))
	}
	for i := range 3 {
		l := s.Enums[i].Values
		if x := l[:len(l)+1][len(l)]; x != (api.Value{}) {
			t.Errorf("behind the values stands %v", x)
		}
		fields, bars := s.Messages[i].Fields, s.Messages[i].Barred
		if x := fields[:len(fields)+1][len(fields)]; x != (api.Field{}) {
			t.Errorf("behind the fields stands %v", x)
		}
		if x := bars[:len(bars)+1][len(bars)]; x != 0 {
			t.Errorf("behind the barred numbers stands %d", x)
		}
	}
}

// P15.2: lists that the first one has twice are two of the copy.
func TestCopyOfSharedLists(t *testing.T) {
	values, fields, bars := manyValues(3), manyFields(3), manyBarred(3)
	s := api.Schema{
		Enums:    []api.Enum{{Name: "E", Values: values}, {Name: "F", Values: values}},
		Messages: []api.Message{{Name: "M", Fields: fields, Barred: bars}, {Name: "N", Fields: fields, Barred: bars}},
	}
	checks(t, s, api.OK)
	c := schema.Copy(s)
	c.Enums[0].Values[0].Name, c.Messages[0].Fields[0].Name, c.Messages[0].Barred[0] = "x", "x", 77
	if c.Enums[1].Values[0].Name != "v0" || c.Messages[1].Fields[0].Name != "f0" || c.Messages[1].Barred[0] != 2 {
		t.Errorf("the copy is %s", told(c))
	}
}

// P15.2: not even texts are shared: of a long text a copy keeps no more than the name.
func TestCopyOfTexts(t *testing.T) {
	long := strings.Repeat("EvMaRo", 1000)
	s := api.Schema{
		Enums:    []api.Enum{{Name: long[:1], Values: []api.Value{{Name: long[1:2]}}}},
		Messages: []api.Message{{Name: long[2:3], Fields: []api.Field{{Name: long[3:4], Num: 1, Type: api.TyEnum, Ref: long[:1], One: long[5:6]}}}},
	}
	checks(t, s, api.OK)
	c := schema.Copy(s)
	at := uintptr(unsafe.Pointer(unsafe.StringData(long)))
	f := c.Messages[0].Fields[0]
	for _, text := range []string{c.Enums[0].Name, c.Enums[0].Values[0].Name, c.Messages[0].Name, f.Name, f.Ref, f.One} {
		if p := uintptr(unsafe.Pointer(unsafe.StringData(text))); at <= p && p < at+uintptr(len(long)) {
			t.Errorf("%q is a piece of the long text", text)
		}
	}
	same(t, "pieces", s, c, true)
}

// used tells whether a field of any message names the message at that place.
func used(s api.Schema, at int) bool {
	for _, m := range s.Messages {
		for _, f := range m.Fields {
			if f.Type == api.TyMessage && f.Ref == s.Messages[at].Name {
				return true
			}
		}
	}
	return false
}

// P15.3: a schema that may be, without a message that nobody names, and that is not the root; and with one more such message.
func TestWithoutAMessage(t *testing.T) {
	s := good()
	s.Messages = s.Messages[:2]
	checks(t, s, api.OK)
	s.Messages = s.Messages[:1]
	checks(t, s, api.ErrNone)
	r := rand.New(rand.NewSource(153))
	times, needed := 0, 0
	for range 20000 {
		s := chance(r, 0)
		checks(t, s, api.OK)
		for i := 1; i < len(s.Messages); i++ {
			less := schema.Copy(s)
			less.Messages = slices.Delete(less.Messages, i, i+1)
			if used(s, i) {
				// It is named by itself alone, or by another one, which then names nothing.
				if l := found(less); len(l) > 0 {
					checks(t, less, api.ErrNone)
					needed++
				}
				continue
			}
			times++
			checks(t, less, api.OK)
			more := schema.Copy(less)
			more.Messages = slices.Insert(more.Messages, i, api.Message{Name: s.Messages[i].Name, Barred: []int{1}})
			checks(t, more, api.OK)
		}
	}
	if times < 1000 || needed < 1000 {
		t.Errorf("the material is poor: %d messages that nobody names, %d that somebody does", times, needed)
	}
}

// P15.3: messages that only they themselves name, or that name one another, but the root does not.
func TestApart(t *testing.T) {
	self := func(ref string) []api.Field { return []api.Field{{Name: "a", Num: 1, Type: api.TyMessage, Ref: ref}} }
	s := api.Schema{Messages: []api.Message{{Name: "M"}, {Name: "A", Fields: self("A")}, {Name: "B", Fields: self("C")}, {Name: "C", Fields: self("B")}, {Name: "D", Fields: self("M")}}}
	checks(t, s, api.OK)
	checks(t, api.Schema{Messages: s.Messages[:2]}, api.OK)
	checks(t, api.Schema{Messages: s.Messages[:3]}, api.ErrNone)
	checks(t, api.Schema{Messages: s.Messages[:4]}, api.OK)
}

// Rules 3 and 4: nothing that is handed in is changed, and the same is answered again.
func TestNothingIsChanged(t *testing.T) {
	for i := range breaks {
		made := func() api.Schema {
			s := roomy(good())
			breaks[i].change(&s)
			return s
		}
		s := made()
		e := schema.Check(s)
		c := schema.Copy(s)
		schema.Same(s, c)
		if again := schema.Check(s); again != e || !alike(s, made()) {
			t.Fatalf("%s: %d, and then %d; the schema is %s", breaks[i].what, e, again, told(s))
		}
		if schema.Check(good()) != api.OK || schema.Check(c) != e {
			t.Fatalf("%s: asked again, something else", breaks[i].what)
		}
	}
}
