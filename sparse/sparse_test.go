package sparse_test

import (
	"fmt"
	"maps"
	"math"
	"math/rand"
	"slices"
	"strconv"
	"strings"
	"testing"
	"unsafe"

	"ecdysis/api"
	"ecdysis/lex"
	"ecdysis/schema"
	"ecdysis/sparse"
	"ecdysis/sprint"
)

// about is what the test asks for, short enough to be told.
func about(x any) string {
	if s := fmt.Sprintf("%#v", x); len(s) < 5000 {
		return s
	}
	return "something very great"
}

// empty tells whether a schema is the empty one.
func empty(s api.Schema) bool {
	return len(s.Enums) == 0 && len(s.Messages) == 0
}

// reads asks that the text is read, to its end, as that schema.
func reads(t *testing.T, text string, want api.Schema) {
	t.Helper()
	s, n, e := sparse.Parse(text)
	if e != api.OK || n != len(text) || !schema.Same(s, want) {
		t.Errorf("Parse of %q: %s, %d, %d; wanted %s, %d", text, about(s), n, e, about(want), len(text))
	}
}

// refuses asks that the text is refused there, with that error.
func refuses(t *testing.T, text string, at int, want api.Errno) {
	t.Helper()
	if s, n, e := sparse.Parse(text); e != want || n != at || !empty(s) {
		t.Errorf("Parse of %q: %s, %d, %d; wanted nothing, %d, %d", text, about(s), n, e, at, want)
	}
}

// mayNot asks that the text is read to its end, and what it tells is refused with that error.
func mayNot(t *testing.T, text string, want api.Errno) {
	t.Helper()
	refuses(t, text, len(text), want)
}

// one is a schema of one message M with those fields.
func one(fields ...api.Field) api.Schema {
	return api.Schema{Messages: []api.Message{{Name: "M", Fields: fields}}}
}

// P18.2: the chapter's examples.
func TestExamples(t *testing.T) {
	reads(t, "message M{int32 a=1;}", one(api.Field{Name: "a", Num: 1, Type: api.TyInt32}))
	refuses(t, "message M{int32 a 1;}", 18, api.ErrText)
}

// whole has each rule of the grammar, and each way that a rule has; nothing in it is in the order that a schema has. Behind each of its enums and messages stands a schema that may be.
const whole = `
message Root { // the root's name is the greatest
	reserved 9;
	loose uint32 late = 536870911; oneof pick string s = 5;
	int32 a = 1;
	reserved 19000, 3, 536870910;
	oneof other bytes b = 4; oneof pick Root r = 20000;
	repeated int64 many=2;
	reserved 7;
}
enum Size { big = 1048576; small = 0; middle = 10; }
message Note { }
enum Color { red = 0; }
message Box {
	Size size = 3;
	loose Color colors = 2;
	repeated Size sizes = 4;
	oneof o Color color = 1;
	Box box = 8; repeated Note notes = 6; oneof o Note note = 7;
}
message Apart { reserved 2, 1; }`

// told is the schema that whole tells.
func told() api.Schema {
	return api.Schema{
		Enums: []api.Enum{
			{Name: "Color", Values: []api.Value{{Name: "red"}}},
			{Name: "Size", Values: []api.Value{{Name: "small"}, {Name: "middle", Num: 10}, {Name: "big", Num: 1 << 20}}},
		},
		Messages: []api.Message{
			{Name: "Root", Fields: []api.Field{
				{Name: "a", Num: 1, Type: api.TyInt32},
				{Name: "many", Num: 2, Type: api.TyInt64, Rep: true},
				{Name: "b", Num: 4, Type: api.TyBytes, One: "other"},
				{Name: "s", Num: 5, Type: api.TyString, One: "pick"},
				{Name: "r", Num: 20000, Type: api.TyMessage, Ref: "Root", One: "pick"},
				{Name: "late", Num: api.MaxNum, Type: api.TyUint32, Rep: true, Loose: true},
			}, Barred: []int{3, 7, 9, 19000, api.MaxNum - 1}},
			{Name: "Apart", Barred: []int{1, 2}},
			{Name: "Box", Fields: []api.Field{
				{Name: "color", Num: 1, Type: api.TyEnum, Ref: "Color", One: "o"},
				{Name: "colors", Num: 2, Type: api.TyEnum, Ref: "Color", Rep: true, Loose: true},
				{Name: "size", Num: 3, Type: api.TyEnum, Ref: "Size"},
				{Name: "sizes", Num: 4, Type: api.TyEnum, Ref: "Size", Rep: true},
				{Name: "notes", Num: 6, Type: api.TyMessage, Ref: "Note", Rep: true},
				{Name: "note", Num: 7, Type: api.TyMessage, Ref: "Note", One: "o"},
				{Name: "box", Num: 8, Type: api.TyMessage, Ref: "Box"},
			}},
			{Name: "Note"},
		},
	}
}

// P18.2: all rules at once.
func TestWhole(t *testing.T) {
	reads(t, whole, told())
	reads(t, whole+"\n// that is all", told())
}

// P18.2: each type by its word, and by an enum's and a message's name, which may stand ahead of the field and behind it; alone, repeated, loose and in a oneof.
func TestEachType(t *testing.T) {
	words := []string{"int32", "int64", "uint32", "uint64", "sint32", "sint64", "bool", "fixed32", "fixed64", "sfixed32", "sfixed64", "string", "bytes", "E", "N", "M"}
	enums := []api.Enum{{Name: "E", Values: []api.Value{{Name: "x"}}}}
	for i, word := range words {
		f := api.Field{Name: "a", Num: 1, Type: min(i+1, api.TyMessage)}
		if f.Type >= api.TyEnum {
			f.Ref = word
		}
		ask := func(line string, f api.Field) {
			t.Helper()
			s := one(f)
			s.Messages = append(s.Messages, api.Message{Name: "N"})
			s.Enums = enums
			line = "message M{" + line + "}"
			reads(t, line+" message N{} enum E{x=0;}", s)
			reads(t, line+" enum E{x=0;} message N{}", s)
			reads(t, "enum E{x=0;} "+line+" message N{}", s)
		}
		ask(word+" a=1;", f)
		of, rep := f, f
		of.One = "o"
		ask("oneof o "+word+" a=1;", of)
		rep.Rep = true
		ask("repeated "+word+" a=1;", rep)
		if f.Type < api.TyString || f.Type == api.TyEnum {
			rep.Loose = true
			ask("loose "+word+" a=1;", rep)
		} else {
			mayNot(t, "message M{loose "+word+" a=1;} message N{} enum E{x=0;}", api.ErrArg)
		}
		mayNot(t, "message M{oneof o repeated "+word+" a=1;} message N{} enum E{x=0;}", api.ErrArg)
		mayNot(t, "message M{oneof o loose "+word+" a=1;} message N{} enum E{x=0;}", api.ErrArg)
	}
}

// P18.2: a field is of an enum if it has all of the enum's name, and never by a value's; also if a message has that name, too.
func TestNearNames(t *testing.T) {
	for _, word := range []string{"e", "EE", "x", "Int32", "int", "string_"} {
		mayNot(t, "enum E{x=0;} message O{} message M{"+word+" a=1;}", api.ErrNone)
	}
	// A field may be loose if it is of an enum, not if it is of a message: which it is tells what is refused first.
	mayNot(t, "message M{loose E a=1;} message E{} enum E{x=0;}", api.ErrThere)
	mayNot(t, "message M{loose E a=1;} message E{}", api.ErrArg)
}

// P18.2: lines of barred numbers, of one and of several, ahead of fields and behind them.
func TestReserved(t *testing.T) {
	a := []api.Field{{Name: "a", Num: 1, Type: api.TyBool}}
	for _, x := range []struct {
		lines  string
		barred []int
	}{
		{"reserved 7;", []int{7}},
		{"reserved 536870911;", []int{api.MaxNum}},
		{"reserved 2,3,4;", []int{2, 3, 4}},
		{"reserved 4, 3, 2;", []int{2, 3, 4}},
		{"reserved 5; reserved 4; reserved 19500;", []int{4, 5, 19500}},
		{"reserved 9, 2; reserved 8, 3, 10; reserved 4;", []int{2, 3, 4, 8, 9, 10}},
	} {
		want := api.Schema{Messages: []api.Message{{Name: "M", Barred: x.barred}}}
		reads(t, "message M{"+x.lines+"}", want)
		want.Messages[0].Fields = a
		reads(t, "message M{"+x.lines+"bool a=1;}", want)
		reads(t, "message M{bool a=1;"+x.lines+"}", want)
	}
	reads(t, "message M{reserved 50;reserved 40;bool a=1;reserved 3, 2;}", api.Schema{Messages: []api.Message{{Name: "M", Fields: a, Barred: []int{2, 3, 40, 50}}}})
}

// P18.2: what is small, and what stands at the limits.
func TestSmall(t *testing.T) {
	for _, text := range []string{"", " ", "\n\t", "// nothing", "enum E{x=0;}", "// a\nenum E{x=0;}enum F{y=0;}"} {
		mayNot(t, text, api.ErrNone)
	}
	reads(t, "message M{}", one())
	reads(t, "\tmessage//{\nM// M\n{\n}//", one())
	for _, text := range []string{"enum E{}", "enum E{}message M{}", "message M{}enum E{} enum F{x=0;}", "message M{E a=1;}enum E{}"} {
		mayNot(t, text, api.ErrNone)
	}
	reads(t, "enum E{x=0;}message M{}", api.Schema{Enums: []api.Enum{{Name: "E", Values: []api.Value{{Name: "x"}}}}, Messages: []api.Message{{Name: "M"}}})
	reads(t, "message M{message12345 a=1;}message message12345{}", api.Schema{Messages: []api.Message{
		{Name: "M", Fields: []api.Field{{Name: "a", Num: 1, Type: api.TyMessage, Ref: "message12345"}}}, {Name: "message12345"}}})
}

// P18.2: how great a number may be: what the grammar has is refused, if at all, by schema.Check.
func TestNumbers(t *testing.T) {
	for _, text := range []string{"message M{int32 a=#;}", "message M{reserved #;}", "message M{reserved 1,#;}", "message M{} enum E{x=#;}", "message M{oneof o M m=#;}", "message M{} enum E{x=0;y=#;}"} {
		ask := func(number string, grammar bool) {
			t.Helper()
			at, whole := strings.Index(text, "#"), strings.Replace(text, "#", number, 1)
			if grammar {
				mayNot(t, whole, api.ErrArg)
				return
			}
			refuses(t, whole, at, api.ErrText)
			refuses(t, whole+" enum Z{}", at, api.ErrText)
		}
		ask("1073741824", true)
		ask("1073741823", true)
		ask("536870912", true)
		ask("1073741825", false)
		ask("4294967296", false)
		ask("4294967297", false)
		ask("18446744073709551615", false)
		ask("-1", false)
		ask("-1073741824", false)
		ask("-9223372036854775808", false)
	}
}

// wordlist is words of the languages: those of the grammar first.
var wordlist = []string{"enum", "message", "reserved", "oneof", "repeated", "loose", "int32", "uint64", "bool", "fixed32", "sfixed64", "string", "bytes", "to", "of", "true", "default", "rename"}

// P18.2: where the grammar has a NAME, a word of the languages is one, too: it is schema.Check that refuses it, when all has been read. What that refuses ahead of texts tells that all has been read.
func TestWordsAsNames(t *testing.T) {
	ask := func(text string) {
		t.Helper()
		mayNot(t, text, api.ErrText)
		mayNot(t, text+" enum Z{}", api.ErrNone)
		mayNot(t, "enum E{}enum F{}enum G{}enum Z{}"+text, api.ErrMany)
	}
	for _, w := range wordlist {
		ask("message " + w + "{}")
		ask("message M{} enum " + w + "{x=0;}")
		ask("message M{} enum E{" + w + "=0;}")
		ask("message M{} enum E{x=0;" + w + "=1;}")
		ask("message M{int32 " + w + "=1;}")
		ask("message M{M " + w + "=1;}")
		ask("message M{repeated M " + w + "=1;}")
		ask("message M{loose int32 " + w + "=1;}")
		ask("message M{oneof " + w + " int32 a=1;}")
		ask("message M{oneof o int32 " + w + "=1;}")
		ask("message M{oneof " + w + " int32 " + w + "=1;}")
		ask("message " + w + "{repeated " + w + " " + w + "=1;} enum " + w + "{" + w + "=0;}")
	}
	// As types: those that are types' words are read as these.
	for _, w := range []string{"enum", "message", "to", "of", "true"} {
		ask("message M{" + w + " a=1;}")
	}
	for _, w := range []string{"enum", "message", "reserved", "oneof", "to", "of"} {
		ask("message M{oneof o " + w + " a=1;}")
	}
	for _, w := range []string{"enum", "message", "reserved", "oneof", "repeated", "loose", "to", "of"} {
		ask("message M{repeated " + w + " a=1;}")
		ask("message M{loose " + w + " a=1;}")
		ask("message M{oneof o repeated " + w + " a=1;}")
		ask("message M{oneof " + w + " loose " + w + " " + w + "=1;}")
	}
}

// P18.2: the grammar's words are read as such where they may stand.
func TestWordsAsWords(t *testing.T) {
	for _, x := range []struct {
		ahead, refused string
	}{
		{"message M{reserved ", "a=1;}"},
		{"message M{reserved ", "reserved 1;}"},
		{"message M{oneof a", "=1;}"},
		{"message M{oneof oneof", "=1;}"},
		{"message M{repeated a", "=1;}"},
		{"message M{repeated repeated", "=1;}"},
		{"message M{loose a", "=1;}"},
		{"message M{loose loose", "=1;}"},
		{"message M{oneof o repeated a", "=1;}"},
		{"message M{oneof o loose a", "=1;}"},
		{"message M{oneof repeated a", "=1;}"},
		{"message M{oneof loose a", "=1;}"},
		{"message M{repeated oneof o ", "int32 a=1;}"},
		{"message M{loose oneof o ", "int32 a=1;}"},
		{"message M{repeated loose int32 ", "a=1;}"},
		{"message M{loose repeated int32 ", "a=1;}"},
		{"message M{oneof o oneof p ", "int32 a=1;}"},
		{"message M{oneof o reserved ", "1;}"},
		{"message M{enum E ", "{x=0;}}"},
		{"message M{message N ", "{}}"},
		{"message M{}", "oneof o int32 a=1;"},
		{"message M{} ", "reserved 1;"},
		{"enum E{reserved ", "1;}"},
		{"enum E{oneof ", "o=1;}"},
		// A text with quotes is no word, and no mark.
		{"", "'message' M{}"},
		{"message M{", "'reserved' 1;}"},
		{"message M", "'{' }"},
		{"message M{", "'}'"},
		{"message ", "'M'{}"},
	} {
		refuses(t, x.ahead+x.refused, len(x.ahead), api.ErrText)
	}
}

// rules is the grammar as places between tokens: at each, where what may stand there leads to. A word of its own goes ahead of NAME.
var rules = map[string]map[string]string{
	"text":       {"enum": "enum", "message": "message", "END": "done"},
	"enum":       {"NAME": "enum E"},
	"enum E":     {"{": "values"},
	"values":     {"}": "text", "NAME": "value"},
	"value":      {"=": "value ="},
	"value =":    {"NUMBER": "value = 1"},
	"value = 1":  {";": "values"},
	"message":    {"NAME": "message M"},
	"message M":  {"{": "lines"},
	"lines":      {"}": "text", "reserved": "reserved", "oneof": "oneof", "repeated": "many", "loose": "many", "NAME": "typed"},
	"reserved":   {"NUMBER": "reserved 1"},
	"reserved 1": {",": "reserved", ";": "lines"},
	"oneof":      {"NAME": "oneof o"},
	"oneof o":    {"repeated": "many", "loose": "many", "NAME": "typed"},
	"many":       {"NAME": "typed"},
	"typed":      {"NAME": "field"},
	"field":      {"=": "field ="},
	"field =":    {"NUMBER": "field = 1"},
	"field = 1":  {";": "lines"},
}

// leads is where the token leads to from that place; empty, if it may not stand there.
func leads(from string, t lex.Token) string {
	to := rules[from]
	switch {
	case t.Kind == lex.End:
		return to["END"]
	case t.Kind == lex.Mark:
		return to[t.S]
	case t.Kind == lex.Number && !t.Neg && t.N <= 1<<30:
		return to["NUMBER"]
	case t.Kind == lex.Name && to[t.S] != "":
		return to[t.S]
	case t.Kind == lex.Name:
		return to["NAME"]
	}
	return ""
}

// stops is the place of the text's first token with which no text goes on; -1: there is none.
func stops(t *testing.T, text string) int {
	t.Helper()
	l, _, e := lex.All(text, api.MaxText)
	if e != api.OK {
		t.Fatalf("the material is no tokens: %q", text)
	}
	place := "text"
	for _, token := range l {
		if place = leads(place, token); place == "" {
			return token.At
		}
	}
	return -1
}

// ways is a shortest text that leads to each place of the rules.
func ways() map[string]string {
	example := map[string]string{"NAME": "a", "NUMBER": "1"}
	found, next := map[string]string{"text": ""}, []string{"text"}
	for ; len(next) > 0; next = next[1:] {
		for _, token := range slices.Sorted(maps.Keys(rules[next[0]])) {
			to := rules[next[0]][token]
			if _, there := found[to]; !there && to != "done" {
				if example[token] != "" {
					token = example[token]
				}
				found[to] = strings.TrimSpace(found[next[0]] + " " + token)
				next = append(next, to)
			}
		}
	}
	return found
}

// P18.2: at each place of each rule each token: where it may not stand, it is refused there.
func TestEachTokenAtEachPlace(t *testing.T) {
	tokens := append(strings.Fields("M a1 0 1 7 1073741824 1073741825 18446744073709551615 -1 -1073741824 { } ( ) = , . ; '' 'a' '{' 'enum' '1'"), wordlist...)
	refused, led := 0, 0
	for place, ahead := range ways() {
		for _, token := range tokens {
			at := len(ahead) + 1
			bad := stops(t, ahead+" "+token) == at
			for _, behind := range []string{"", " ", "//", " = 1;}", " {}", "; }", "} message M{}", " a = 1; }", " ' '"} {
				text := ahead + " " + token + behind
				want := stops(t, text)
				switch {
				case bad != (want == at):
					t.Fatalf("the rules are at odds: %q", text)
				case want < 0:
					// What schema.Check says of it is asked elsewhere: here all was read.
					if _, n, _ := sparse.Parse(text); n != len(text) {
						t.Errorf("at %s: Parse of %q: refused at %d", place, text, n)
					}
					led++
				default:
					refuses(t, text, want, api.ErrText)
					refused++
				}
			}
		}
	}
	if len(rules) != 19 || len(ways()) != 19 || refused < 4000 || led < 20 {
		t.Errorf("the material is poor: %d refused, %d not", refused, led)
	}
}

// P18.2: a text that ends behind one of its tokens is refused at its end, wherever an enum or a message is not at an end.
func TestEndBehindEachToken(t *testing.T) {
	l, _, _ := lex.All(whole, api.MaxText)
	depth, ended := 0, 0
	for i, token := range l[:len(l)-1] {
		switch token.S {
		case "{":
			depth++
		case "}":
			depth--
		}
		// What stands behind the token, up to the next one, is passed over.
		short := strings.TrimRight(whole[:l[i+1].At], " \t\n")
		if at := strings.Index(short[token.At:], "//"); at >= 0 {
			short = strings.TrimRight(short[:token.At+at], " \t\n")
		}
		for _, text := range []string{short, short + "\n", short + " // } 1"} {
			if part := token.S == "}" && depth == 0; !part {
				refuses(t, text, len(text), api.ErrText)
				continue
			}
			ended++
			if s, n, e := sparse.Parse(text); e != api.OK || n != len(text) || empty(s) {
				t.Errorf("Parse of %q: %s, %d, %d", text, about(s), n, e)
			}
		}
	}
	if ended != 3*6 {
		t.Errorf("the material is poor: %d", ended)
	}
}

// P18.2: what lex.All refuses goes ahead of all else, also of what the grammar refuses ahead of it.
func TestNoTokens(t *testing.T) {
	for _, x := range []struct {
		text string
		at   int
	}{
		{"?", 0},
		{"message M{int32 a=01;}", 18},
		{"message M{int32 a=-0;}", 18},
		{"message M{int32 a=18446744073709551616;}", 18},
		{"message M{int32 a=-;}", 18},
		{"message M{int32 a:1;}", 17},
		{"message M{} 'open", 12},
		{"message M{} /", 12},
		{"message M{}\r\n", 11},
		{"message M{} _", 12},
		{"message é{}", 8},
		{"message M{}\x00", 11},
		{"message M{int32 a 1;} ?", 22},
		{"} } } \xff", 6},
		{"enum E{} \"", 9},
	} {
		refuses(t, x.text, x.at, api.ErrText)
		if _, at, e := lex.All(x.text, api.MaxText); at != x.at || e != api.ErrText {
			t.Errorf("lex.All of %q: %d, %d", x.text, at, e)
		}
	}
}

// P18.2: texts of MaxText bytes, and of more.
func TestLongTexts(t *testing.T) {
	pad := func(text, with string) string {
		return text + strings.Repeat(with, (api.MaxText-len(text))/len(with))
	}
	for _, with := range []string{" ", "\n", "/"} {
		text := pad("message M{}  ", with)
		if len(text) != 6000 {
			t.Fatal("the material is no longest text")
		}
		reads(t, text, one())
		reads(t, strings.Repeat(" ", 6000-11)+"message M{}", one())
		refuses(t, text+with, 0, api.ErrLong)
	}
	for _, text := range []string{pad("?", "?"), pad("'", "a"), pad("message M{int32 a 1;}", " "), pad("message M{}", "message M{}"), pad("", "a")} {
		text = (text + strings.Repeat(" ", api.MaxText))[:api.MaxText]
		if _, n, e := sparse.Parse(text); e == api.OK || e == api.ErrLong || n > len(text) {
			t.Errorf("Parse of %q: %d, %d", text[:30], n, e)
		}
		refuses(t, text+" ", 0, api.ErrLong)
	}
	// As many parts, lines and numbers as such a text can have.
	ask := func(ahead, piece, behind string) {
		t.Helper()
		text := ahead + strings.Repeat(piece, (api.MaxText-len(ahead)-len(behind))/len(piece)) + behind
		mayNot(t, text, api.ErrMany)
	}
	ask("", "message M{}", "")
	ask("message M{}", "enum E{}", "")
	ask("message M{", "M a=1;", "}")
	ask("message M{", "reserved 1;", "}")
	ask("message M{reserved 1", ",1", ";}")
	ask("message M{}enum E{", "a=1;", "}")
	ask("message M{", "loose E a=1;", "}enum E{x=0;}enum F{x=0;}enum G{x=0;}")
	refuses(t, strings.Repeat("?", 1<<22), 0, api.ErrLong)
	refuses(t, strings.Repeat("message M{}", 1<<18), 0, api.ErrLong)
}

// P18.2: what schema.Check refuses, each for another reason: its error, and the text's length.
func TestSchemasThatMayNotBe(t *testing.T) {
	field := func(line string) string { return "message M { " + line + " } message N { } enum E { x = 0; }" }
	for _, x := range []struct {
		want  api.Errno
		texts []string
	}{
		{api.ErrMany, []string{
			"message M{} enum A{x=0;} enum B{x=0;} enum C{x=0;} enum D{x=0;}",
			"message A{}message B{}message C{}message D{}message E{}message F{}message G{}",
			"message M{} enum E{a=0;b=1;c=2;d=3;e=4;f=5;g=6;h=7;i=8;}",
			field("N a=1;N b=2;N c=3;N d=4;N e=5;N f=6;N g=7;N h=8;N i=9;N j=10;N k=11;"),
			field("reserved 1, 2, 3, 4; reserved 5; reserved 6, 7, 8, 9;"),
		}},
		{api.ErrNone, []string{
			"enum E{x=0;}",
			"enum E{x=0;} message M{} enum F{}",
		}},
		{api.ErrText, []string{
			"message M{} enum EEEEEEEEEEEEE{x=0;}",
			"message M{} enum E{to=0;}",
			"message MMMMMMMMMMMMM{}",
			field("int32 into = 1;"),
			field("oneof as int32 a = 1;"),
			field("NNNNNNNNNNNNN a = 1;"),
		}},
		{api.ErrArg, []string{
			field("int32 a = 0;"),
			field("int32 a = 19000;"),
			field("int32 a = 536870912;"),
			field("oneof o repeated int32 a = 1;"),
			field("oneof o loose int32 a = 1;"),
			field("loose string a = 1;"),
			field("loose N a = 1;"),
		}},
		{api.ErrThere, []string{
			"message M{} enum M{x=0;}",
			"message M{} message M{}",
			"message M{} enum E{x=0;} enum E{x=0;}",
			"message M{} enum E{x=0;x=1;}",
			field("int32 a = 1; int32 a = 2;"),
			field("oneof a int32 b = 1; int32 a = 2;"),
		}},
		{api.ErrArg, []string{
			field("int32 a = 1; int32 b = 1;"),
			field("reserved 0;"),
			field("reserved 5, 5;"),
			field("reserved 536870912;"),
			"message M{} enum E{x=1;}",
			"message M{} enum E{x=0;y=0;}",
			"message M{} enum E{x=0;y=1048577;}",
		}},
		{api.ErrThere, []string{
			field("reserved 1; int32 a = 1;"),
			field("int32 a = 1; reserved 2, 1;"),
		}},
		{api.ErrNone, []string{
			field("O a = 1;"),
			"message N{} message M{} message A{repeated e a=1;} enum E{x=0;}",
		}},
	} {
		for _, text := range x.texts {
			mayNot(t, text, x.want)
			mayNot(t, " "+text+" // behind it\n", x.want)
		}
	}
}

// P18.1, P18.2: what stands in no order is read as what stands in order, and the first message is the root.
func TestAnyOrder(t *testing.T) {
	parts := []string{"message Z{E e=2;D d=1;}", "enum E{y=1;x=0;}", "message B{}", "enum D{x=0;}", "message A{}"}
	want := api.Schema{
		Enums:    []api.Enum{{Name: "D", Values: []api.Value{{Name: "x"}}}, {Name: "E", Values: []api.Value{{Name: "x"}, {Name: "y", Num: 1}}}},
		Messages: []api.Message{{Name: "Z", Fields: []api.Field{{Name: "d", Num: 1, Type: api.TyEnum, Ref: "D"}, {Name: "e", Num: 2, Type: api.TyEnum, Ref: "E"}}}, {Name: "A"}, {Name: "B"}},
	}
	r := rand.New(rand.NewSource(181))
	for range 500 {
		r.Shuffle(len(parts), func(i, k int) { parts[i], parts[k] = parts[k], parts[i] })
		text := strings.Join(parts, "")
		root := text[strings.Index(text, "message ")+8:][:1]
		// Without its name the root is the least one.
		key := func(m api.Message) string { return strings.TrimPrefix(m.Name, root) }
		slices.SortFunc(want.Messages, func(a, b api.Message) int { return strings.Compare(key(a), key(b)) })
		reads(t, text, want)
	}
}

// sink puts the list in order by hand, element by element: those alike stay in their order.
func sink[T any](l []T, below func(a, b T) bool) {
	for i := range l {
		for k := i; k > 0 && below(l[k], l[k-1]); k-- {
			l[k], l[k-1] = l[k-1], l[k]
		}
	}
}

// inOrder is what Sorted has to answer, by the words of P18.1.
func inOrder(s api.Schema) api.Schema {
	s = schema.Copy(s)
	sink(s.Enums, func(a, b api.Enum) bool { return a.Name < b.Name })
	if len(s.Messages) > 0 {
		sink(s.Messages[1:], func(a, b api.Message) bool { return a.Name < b.Name })
	}
	for _, e := range s.Enums {
		sink(e.Values, func(a, b api.Value) bool { return a.Num < b.Num })
	}
	for _, m := range s.Messages {
		sink(m.Fields, func(a, b api.Field) bool { return a.Num < b.Num })
		sink(m.Barred, func(a, b int) bool { return a < b })
	}
	return s
}

// sorts asks that Sorted of s is want, and that s stays.
func sorts(t *testing.T, s, want api.Schema) {
	t.Helper()
	was := schema.Copy(s)
	got := sparse.Sorted(s)
	if !schema.Same(got, want) {
		t.Errorf("Sorted of %s: %s; wanted %s", about(was), about(got), about(want))
	}
	if !schema.Same(s, was) {
		t.Errorf("Sorted changed %s to %s", about(was), about(s))
	}
}

// P18.1: schemas in no order, also such as may not be.
func TestSorted(t *testing.T) {
	v := func(num int, names ...string) (l []api.Value) {
		for _, name := range names {
			l = append(l, api.Value{Name: name, Num: num})
		}
		return l
	}
	sorts(t, api.Schema{}, api.Schema{})
	sorts(t, api.Schema{Enums: []api.Enum{}, Messages: []api.Message{}}, api.Schema{})
	sorts(t, one(), one())
	// The first message stays, whatever its name is; those behind it rise, byte by byte.
	names := func(l ...string) (s api.Schema) {
		for _, name := range l {
			s.Messages = append(s.Messages, api.Message{Name: name})
		}
		return s
	}
	sorts(t, names("Z", "c", "A", "", "aa", "a", "é", "B"), names("Z", "", "A", "B", "a", "aa", "c", "é"))
	sorts(t, names("", "b", "a"), names("", "a", "b"))
	sorts(t, names("M", "b", "a"), names("M", "a", "b"))
	sorts(t, names("M", "a"), names("M", "a"))
	// Enums rise from the first one on.
	enums := func(l ...string) (s api.Schema) {
		for _, name := range l {
			s.Enums = append(s.Enums, api.Enum{Name: name})
		}
		return s
	}
	sorts(t, enums("Z", "c", "A", "", "\xff", "aa", "a"), enums("", "A", "Z", "a", "aa", "c", "\xff"))
	// Things alike stay in their order.
	sorts(t,
		api.Schema{
			Enums:    []api.Enum{{Name: "F"}, {Name: "E", Values: v(1, "a")}, {Name: "E"}, {Name: "E", Values: v(1, "b")}},
			Messages: []api.Message{{Name: "N"}, {Name: "N", Barred: []int{3}}, {Name: "M"}, {Name: "N", Barred: []int{1}}, {Name: "M", Barred: []int{2}}, {Name: "N", Barred: []int{2}}},
		},
		api.Schema{
			Enums:    []api.Enum{{Name: "E", Values: v(1, "a")}, {Name: "E"}, {Name: "E", Values: v(1, "b")}, {Name: "F"}},
			Messages: []api.Message{{Name: "N"}, {Name: "M"}, {Name: "M", Barred: []int{2}}, {Name: "N", Barred: []int{3}}, {Name: "N", Barred: []int{1}}, {Name: "N", Barred: []int{2}}},
		})
	values := slices.Concat(v(2, "z", "y", "a"), v(0, "m"), v(math.MaxInt, "g"), v(math.MinInt, "h"), v(-1, "i", "c"), v(2, "b"))
	sorts(t, api.Schema{Enums: []api.Enum{{Values: values}}},
		api.Schema{Enums: []api.Enum{{Values: slices.Concat(v(math.MinInt, "h"), v(-1, "i", "c"), v(0, "m"), v(2, "z", "y", "a", "b"), v(math.MaxInt, "g"))}}})
	f := func(num int, name string) api.Field {
		return api.Field{Name: name, Num: num, Type: -num, Ref: "R" + name, Rep: num > 0, Loose: name > "b", One: name + name}
	}
	sorts(t, one(f(3, "c"), f(1, "b"), f(math.MaxInt, "x"), f(3, "a"), f(1, "a"), f(math.MinInt, "x"), f(0, "b"), f(3, "b")),
		one(f(math.MinInt, "x"), f(0, "b"), f(1, "b"), f(1, "a"), f(3, "c"), f(3, "a"), f(3, "b"), f(math.MaxInt, "x")))
	sorts(t, api.Schema{Messages: []api.Message{{Barred: []int{5, 5, -1, math.MaxInt, 0, math.MinInt, 5, 1}}, {Barred: []int{2, 1}}}},
		api.Schema{Messages: []api.Message{{Barred: []int{math.MinInt, -1, 0, 1, 5, 5, 5, math.MaxInt}}, {Barred: []int{1, 2}}}})
	// What is sorted stays as it is.
	sorts(t, told(), told())
	sorts(t, sparse.Sorted(told()), told())
}

// many is a schema of so many of each thing, with the numbers that at tells, and names of these.
func many(n int, at func(i int) int) api.Schema {
	s := api.Schema{Messages: make([]api.Message, 1, n+1)}
	m, e := api.Message{Name: "root"}, api.Enum{Name: "last"}
	for i := range n {
		num := at(i)
		// All of these have as many digits.
		name := strconv.Itoa(1<<20 + num)
		m.Fields = append(m.Fields, api.Field{Name: strconv.Itoa(i), Num: num})
		m.Barred = append(m.Barred, num)
		e.Values = append(e.Values, api.Value{Name: strconv.Itoa(i), Num: num})
		s.Enums = append(s.Enums, api.Enum{Name: name, Values: []api.Value{{Num: i}}})
		s.Messages = append(s.Messages, api.Message{Name: name, Barred: []int{i}})
	}
	s.Messages[0] = m
	s.Enums = append(s.Enums, e)
	return s
}

// P18.1: many things alike stay in their order, and very many are sorted in time.
func TestSortedMuch(t *testing.T) {
	alike := many(1000, func(i int) int { return i * 7919 % 13 })
	sorts(t, alike, inOrder(alike))
	const n = 1 << 16
	s := sparse.Sorted(many(n, func(i int) int { return (i*7919 + 5) % n }))
	m, e := s.Messages[0], s.Enums[n]
	if m.Name != "root" || e.Name != "last" {
		t.Fatal("the root, or the last enum, is another one")
	}
	for i := range n {
		name := strconv.Itoa(1<<20 + i)
		if m.Fields[i].Num != i || m.Barred[i] != i || e.Values[i].Num != i || s.Enums[i].Name != name || s.Messages[i+1].Name != name {
			t.Fatalf("at %d: %v, %d, %v, %v, %v", i, m.Fields[i], m.Barred[i], e.Values[i], s.Enums[i], s.Messages[i+1])
		}
	}
}

// spoil changes all that lists hold, and what stands behind them in their room.
func spoil(s api.Schema) {
	for _, e := range s.Enums[:cap(s.Enums)] {
		for i := range e.Values[:cap(e.Values)] {
			e.Values[:cap(e.Values)][i] = api.Value{Name: "spoilt", Num: -7}
		}
	}
	for _, m := range s.Messages[:cap(s.Messages)] {
		for i := range m.Fields[:cap(m.Fields)] {
			m.Fields[:cap(m.Fields)][i] = api.Field{Name: "spoilt"}
		}
		for i := range m.Barred[:cap(m.Barred)] {
			m.Barred[:cap(m.Barred)][i] = -7
		}
	}
	clear(s.Enums[:cap(s.Enums)])
	clear(s.Messages[:cap(s.Messages)])
}

// Rule 3: an answer shares nothing with what is handed in, nor with another answer.
func TestAnswersAreNew(t *testing.T) {
	s := told()
	slices.Reverse(s.Messages)
	slices.Reverse(s.Enums)
	was := schema.Copy(s)
	spoil(sparse.Sorted(s))
	if !schema.Same(s, was) {
		t.Errorf("what became of the answer changed what was handed in: %s", about(s))
	}
	got := sparse.Sorted(s)
	spoil(s)
	if !schema.Same(got, inOrder(was)) {
		t.Errorf("what became of what was handed in changed the answer: %s", about(got))
	}
	first, _, _ := sparse.Parse(whole)
	spoil(first)
	reads(t, whole, told())
}

// Rule 3: no two lists of one answer share anything: neither what they hold, nor the room behind it.
func TestListsAreApart(t *testing.T) {
	jumbled := told()
	slices.Reverse(jumbled.Messages)
	parsed, _, _ := sparse.Parse(whole)
	for _, s := range []api.Schema{parsed, sparse.Sorted(jumbled)} {
		was := schema.Copy(s)
		for _, e := range s.Enums {
			_ = append(e.Values, api.Value{Num: -7})
		}
		for _, m := range s.Messages {
			_ = append(m.Fields, api.Field{Num: -7})
			_ = append(m.Barred, -7)
		}
		if !schema.Same(s, was) {
			t.Errorf("a list lies in the room behind another one: %s", about(s))
		}
		for i := range s.Messages {
			spoil(api.Schema{Messages: s.Messages[i : i+1 : i+1]})
			was.Messages[i] = api.Message{}
			if !schema.Same(s, was) {
				t.Errorf("what became of a message changed another one: %s", about(s))
			}
		}
		spoil(api.Schema{Enums: s.Enums[:1:1]})
		was.Enums[0] = api.Enum{}
		if !schema.Same(s, was) {
			t.Errorf("what became of an enum changed another one: %s", about(s))
		}
	}
}

// texts is all texts of a schema.
func texts(s api.Schema) (l []string) {
	for _, e := range s.Enums {
		l = append(l, e.Name)
		for _, v := range e.Values {
			l = append(l, v.Name)
		}
	}
	for _, m := range s.Messages {
		l = append(l, m.Name)
		for _, f := range m.Fields {
			l = append(l, f.Name, f.Ref, f.One)
		}
	}
	return l
}

// Rule 3: names are no pieces of the text that was handed in, all of which would be kept with them.
func TestNamesAreNew(t *testing.T) {
	place := func(s string) uintptr { return uintptr(unsafe.Pointer(unsafe.StringData(s))) }
	text := strings.Clone(whole)
	s, _, _ := sparse.Parse(text)
	for _, name := range texts(s) {
		if p := place(name); name != "" && place(text) <= p && p < place(text)+uintptr(len(text)) {
			t.Errorf("the name %s is a piece of the text", name)
		}
	}
	names := map[uintptr]bool{}
	for _, name := range texts(s) {
		names[place(name)] = true
	}
	for _, name := range texts(sparse.Sorted(s)) {
		if name != "" && names[place(name)] {
			t.Errorf("the name %s is the one that was handed in", name)
		}
	}
}

// deal is n of those, by chance, each once.
func deal[T any](r *rand.Rand, n int, of []T) (l []T) {
	for _, i := range r.Perm(len(of))[:n] {
		l = append(l, of[i])
	}
	return l
}

// chance is a schema by chance, in no order: but for that, most often one that may be.
func chance(r *rand.Rand) api.Schema {
	names := strings.Fields("a b c A B C a1 b_ Z9 zz M N E x y o w W0 q_q Q")
	var s api.Schema
	titles := deal(r, 9, names)
	enums, messages := titles[:r.Intn(4)], titles[3:4+r.Intn(6)]
	for _, title := range enums {
		e := api.Enum{Name: title}
		nums := deal(r, r.Intn(8), []int{1, 2, 3, 9, 10, 11, 100, 1<<20 - 1, 1 << 20})
		nums = append(nums, 0)
		r.Shuffle(len(nums), func(i, k int) { nums[i], nums[k] = nums[k], nums[i] })
		for i, name := range deal(r, len(nums), names) {
			e.Values = append(e.Values, api.Value{Name: name, Num: nums[i]})
		}
		s.Enums = append(s.Enums, e)
	}
	for _, title := range messages {
		m := api.Message{Name: title}
		nums := deal(r, 18, []int{1, 2, 3, 4, 9, 10, 11, 15, 16, 99, 100, 2047, 2048, 18999, 20000, 1 << 20, 1 << 28, api.MaxNum - 1, api.MaxNum})
		called := deal(r, 13, names)
		for i := range r.Intn(11) {
			f := api.Field{Name: called[i], Num: nums[i], Type: 1 + r.Intn(15)}
			m.Fields = append(m.Fields, kind(r, f, enums, messages, called[10:]))
		}
		m.Barred = append(m.Barred, nums[10:10+r.Intn(9)]...)
		s.Messages = append(s.Messages, m)
	}
	if r.Intn(3) == 0 {
		harm(r, &s)
	}
	return s
}

// kind is the field with what it may have beside its type.
func kind(r *rand.Rand, f api.Field, enums, messages, ones []string) api.Field {
	if f.Type == api.TyEnum && len(enums) == 0 {
		f.Type = api.TyMessage
	}
	switch f.Type {
	case api.TyEnum:
		f.Ref = enums[r.Intn(len(enums))]
	case api.TyMessage:
		f.Ref = messages[r.Intn(len(messages))]
	}
	switch r.Intn(3) {
	case 0:
		f.Rep = true
		f.Loose = (f.Type < api.TyString || f.Type == api.TyEnum) && r.Intn(2) == 0
	case 1:
		f.One = ones[r.Intn(len(ones))]
	}
	return f
}

// harm changes one thing so that the schema may not be any more, most often.
func harm(r *rand.Rand, s *api.Schema) {
	m := &s.Messages[r.Intn(len(s.Messages))]
	switch r.Intn(6) {
	case 0:
		m.Name = s.Messages[0].Name
	case 1:
		m.Barred = append(m.Barred, 1+r.Intn(4))
	case 2:
		m.Name = wordlist[r.Intn(len(wordlist))]
	case 3:
		s.Enums = append(s.Enums, api.Enum{Name: "H"})
	case 4:
		m.Fields = append(m.Fields, api.Field{Name: "h", Num: []int{0, 1, 2, 19500, 1 << 29, 1 << 30}[r.Intn(6)], Type: api.TyBytes})
	case 5:
		s.Messages = append(s.Messages, api.Message{Name: "h", Fields: []api.Field{{Name: "h", Num: 1, Type: api.TyMessage, Ref: "hh"}}})
	}
}

// tell is tokens of the schema, in the order that it has; enums stand between messages, and barred numbers between fields, by chance.
func tell(r *rand.Rand, s api.Schema) (l []string) {
	enums := s.Enums
	some := func(all bool) {
		for len(enums) > 0 && (all || r.Intn(2) == 0) {
			l = append(l, "enum", enums[0].Name, "{")
			for _, v := range enums[0].Values {
				l = append(l, v.Name, "=", strconv.Itoa(v.Num), ";")
			}
			l = append(l, "}")
			enums = enums[1:]
		}
	}
	for _, m := range s.Messages {
		some(false)
		l = append(l, "message", m.Name, "{")
		l = append(l, lines(r, m)...)
		l = append(l, "}")
	}
	some(true)
	return l
}

// lines is the tokens of the message's lines.
func lines(r *rand.Rand, m api.Message) (l []string) {
	words := strings.Fields("- int32 int64 uint32 uint64 sint32 sint64 bool fixed32 fixed64 sfixed32 sfixed64 string bytes")
	barred := m.Barred
	some := func(all bool) {
		for len(barred) > 0 && (all || r.Intn(2) == 0) {
			l = append(l, "reserved", strconv.Itoa(barred[0]))
			for barred = barred[1:]; len(barred) > 0 && r.Intn(2) == 0; barred = barred[1:] {
				l = append(l, ",", strconv.Itoa(barred[0]))
			}
			l = append(l, ";")
		}
	}
	for _, f := range m.Fields {
		some(false)
		if f.One != "" {
			l = append(l, "oneof", f.One)
		}
		if f.Loose {
			l = append(l, "loose")
		} else if f.Rep {
			l = append(l, "repeated")
		}
		if f.Ref != "" {
			l = append(l, f.Ref)
		} else {
			l = append(l, words[f.Type])
		}
		l = append(l, f.Name, "=", strconv.Itoa(f.Num), ";")
	}
	some(true)
	return l
}

// join puts tokens behind one another, with blanks and remarks by chance.
func join(r *rand.Rand, tokens []string) string {
	var b strings.Builder
	blanks := []string{"", "", " ", "\n", "\t", " // a = 1; }\n", "//\n", "  \n "}
	for _, token := range tokens {
		blank := blanks[r.Intn(len(blanks))]
		// Two names, or a name and a number, would be one without a blank.
		if blank == "" && !strings.ContainsAny(token, "{}=,;") {
			blank = " "
		}
		b.WriteString(blank)
		b.WriteString(token)
	}
	return b.String() + blanks[r.Intn(len(blanks))]
}

// P18.1, P18.2, P18.3: schemas by chance, in no order, told with any blanks, are read as those in order, or refused as schema.Check refuses them; and those that may be are told and read as they are.
func TestByChance(t *testing.T) {
	r := rand.New(rand.NewSource(182))
	may, refused := 0, map[api.Errno]int{}
	for range 8000 {
		s := chance(r)
		want := inOrder(s)
		sorts(t, s, want)
		if t.Failed() {
			t.FailNow()
		}
		text := join(r, tell(r, s))
		if len(text) > api.MaxText {
			continue
		}
		if e := schema.Check(want); e != api.OK {
			refused[e]++
			mayNot(t, text, e)
			continue
		}
		may++
		reads(t, text, want)
		reads(t, sprint.Text(want), want)
	}
	if may < 3500 || len(refused) < 4 {
		t.Errorf("the material is poor: %d may be, refused are %v", may, refused)
	}
}

// P18.2: what is told by tokens by chance, one of them another one, one too few or one too many, is refused where the rules say.
func TestTokensByChance(t *testing.T) {
	r := rand.New(rand.NewSource(183))
	others := append(strings.Fields("{ } ( ) = , . ; 0 1 1073741824 1073741825 -1 'a' a M"), wordlist...)
	refused, not := 0, 0
	for range 20000 {
		l := tell(r, chance(r))
		if r.Intn(2) == 0 {
			l = l[:min(len(l), 1+r.Intn(120))]
		}
		switch at := r.Intn(len(l)); r.Intn(3) {
		case 0:
			l[at] = others[r.Intn(len(others))]
		case 1:
			l = slices.Delete(l, at, at+1)
		case 2:
			l = slices.Insert(l, at, others[r.Intn(len(others))])
		}
		text := join(r, l)
		if len(text) > api.MaxText {
			continue
		}
		if at := stops(t, text); at >= 0 {
			refused++
			refuses(t, text, at, api.ErrText)
			continue
		}
		not++
		if s, n, e := sparse.Parse(text); n != len(text) || (e == api.OK) == empty(s) {
			t.Errorf("Parse of %q: %s, %d, %d", text, about(s), n, e)
		}
	}
	if refused < 10000 || not < 500 {
		t.Errorf("the material is poor: %d refused, %d not", refused, not)
	}
}

// P18.3: schemas' texts are read as they are, also with their parts in another order, and what is read is told and read as the same.
func TestThereAndBack(t *testing.T) {
	want := told()
	text := sprint.Text(want)
	reads(t, text, want)
	s, _, _ := sparse.Parse(whole)
	if got := sprint.Text(s); got != text {
		t.Errorf("what is read is told as %s; wanted %s", got, text)
	}
	r := rand.New(rand.NewSource(184))
	var others []string
	for _, e := range want.Enums {
		others = append(others, sprint.Enum(e))
	}
	for _, m := range want.Messages[1:] {
		others = append(others, sprint.Message(m))
	}
	for range 500 {
		r.Shuffle(len(others), func(i, k int) { others[i], others[k] = others[k], others[i] })
		// The root stays ahead of the messages, and an enum may be ahead of it.
		parts := slices.Clone(others)
		at := slices.IndexFunc(parts, func(part string) bool { return strings.HasPrefix(part, "message") })
		parts = slices.Insert(parts, r.Intn(at+1), sprint.Message(want.Messages[0]))
		reads(t, strings.Join(parts, ""), want)
	}
}

// P18.3: the text of a schema at all limits is not too long to be read.
func TestTheGreatest(t *testing.T) {
	var s api.Schema
	long := func(c byte, i int) string { return strings.Repeat(string(c), api.MaxName-1) + string(rune('a'+i)) }
	for i := range api.MaxEnums {
		e := api.Enum{Name: long('E', i), Values: []api.Value{{Name: long('v', 0)}}}
		for k := range api.MaxValues - 1 {
			e.Values = append(e.Values, api.Value{Name: long('v', k+1), Num: 1<<20 - 6 + k})
		}
		s.Enums = append(s.Enums, e)
	}
	for i := range api.MaxMessages {
		m := api.Message{Name: long('M', i)}
		for k := range api.MaxFields {
			f := api.Field{Name: long('f', k), Num: api.MaxNum - 9 + k, Type: api.TyEnum, Ref: s.Enums[k%3].Name, One: long('o', k)}
			if k%5 == 4 {
				f.Rep, f.One = true, ""
			}
			m.Fields = append(m.Fields, f)
		}
		for k := range api.MaxBarred {
			m.Barred = append(m.Barred, api.MaxNum-20+k)
		}
		s.Messages = append(s.Messages, m)
	}
	if schema.Check(s) != api.OK {
		t.Fatal("the material is no schema")
	}
	reads(t, sprint.Text(s), s)
}

// Rule 1: every call ends, whatever the text is; what is answered is an error with nothing, or a schema that may be.
func TestAnyBytes(t *testing.T) {
	r := rand.New(rand.NewSource(185))
	for range 20000 {
		b := []byte(whole)[:r.Intn(len(whole)+1)]
		for range r.Intn(4) {
			if len(b) > 0 {
				b[r.Intn(len(b))] = byte(r.Intn(256))
			}
		}
		text := string(b)
		s, n, e := sparse.Parse(text)
		again, m, f := sparse.Parse(text)
		switch {
		case n < 0 || n > len(text) || n != m || e != f || !schema.Same(s, again):
			t.Fatalf("Parse of %q: %d, %d; and %d, %d", text, n, e, m, f)
		case e == api.OK && (schema.Check(s) != api.OK || n != len(text)):
			t.Fatalf("Parse of %q: %s, %d", text, about(s), n)
		case e != api.OK && !empty(s):
			t.Fatalf("Parse of %q: %s beside the error %d", text, about(s), e)
		}
	}
}
