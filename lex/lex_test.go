package lex_test

import (
	"math/big"
	"math/rand"
	"regexp"
	"slices"
	"strings"
	"testing"

	"ecdysis/api"
	"ecdysis/lex"
)

const room = 1 << 30 // more bytes than any text of a test has

const (
	letters = "abcdefghijklmnopqrstuvwxyzABCDEFGHIJKLMNOPQRSTUVWXYZ"
	digits  = "0123456789"
	marks   = "{}()=,.;"
)

// gaps is what may stand between tokens.
var gaps = []string{" ", "\n", "\t", "  ", " \n\t ", "\n\n", "//\n", "// x\n", " // 'a {;-0 01 _ / \r é \xff\n\t", "//a\n//b\n", "///\n", "////\n", "// //\n"}

// piece is a text that is one token, and the token.
type piece struct {
	text string
	is   lex.Token
}

// The tokens of each kind, which begin at 0.
func name(s string) lex.Token           { return lex.Token{Kind: 1, S: s} }
func num(n uint64, neg bool) lex.Token  { return lex.Token{Kind: 2, N: n, Neg: neg} }
func text(s string) lex.Token           { return lex.Token{Kind: 3, S: s} }
func mark(s string) lex.Token           { return lex.Token{Kind: 4, S: s} }
func put(t lex.Token, at int) lex.Token { t.At = at; return t }

// pieces is some tokens of all kinds, the edges among them.
func pieces() []piece {
	l := []piece{
		{"a", name("a")}, {"z", name("z")}, {"A", name("A")}, {"Z", name("Z")},
		{"a_1", name("a_1")}, {"b_", name("b_")}, {"c0", name("c0")}, {"d9", name("d9")}, {"zZ_09aA", name("zZ_09aA")}, {"e1", name("e1")}, {"x86", name("x86")},
		{"message", name("message")}, {"to", name("to")}, {"true", name("true")}, {"default", name("default")}, {"int32", name("int32")},
		{"a_name_of_more_bytes_than_a_schema_has", name("a_name_of_more_bytes_than_a_schema_has")},
		{"0", num(0, false)}, {"1", num(1, false)}, {"-1", num(1, true)}, {"9", num(9, false)}, {"10", num(10, false)}, {"-10", num(10, true)}, {"100", num(100, false)}, {"-90", num(90, true)},
		{"536870911", num(1<<29-1, false)}, {"4294967295", num(1<<32-1, false)}, {"4294967296", num(1<<32, false)},
		{"9223372036854775807", num(1<<63-1, false)}, {"-9223372036854775807", num(1<<63-1, true)},
		{"9223372036854775808", num(1<<63, false)}, {"-9223372036854775808", num(1<<63, true)},
		{"9223372036854775809", num(1<<63+1, false)}, {"10000000000000000000", num(1e19, false)},
		{"18446744073709551614", num(1<<64-2, false)}, {"18446744073709551615", num(1<<64-1, false)},
		{"''", text("")}, {"''''", text("'")}, {"''''''", text("''")}, {"''''''''", text("'''")},
		{"'a'", text("a")}, {"'a'''", text("a'")}, {"'''a'", text("'a")}, {"'a''b'", text("a'b")}, {"'a''''b'", text("a''b")}, {"'''a''b'''", text("'a'b'")},
		{"' '", text(" ")}, {"'\n'", text("\n")}, {"'\t'", text("\t")}, {"'\r'", text("\r")}, {"'\x00'", text("\x00")},
		{"'//'", text("//")}, {"'// a\nb'", text("// a\nb")}, {"'a//'", text("a//")}, {"'/'", text("/")}, {"'{'", text("{")}, {"';'", text(";")}, {"'a = 1;'", text("a = 1;")},
		{"'01'", text("01")}, {"'-0'", text("-0")}, {"'-'", text("-")}, {"'_'", text("_")}, {"'\"'", text("\"")}, {"'\\'", text("\\")}, {"'\\'''", text("\\'")},
		{"'é'", text("é")}, {"'\u2028'", text("\u2028")}, {"'\U0001f98b'", text("\U0001f98b")}, {"'\xff'", text("\xff")}, {"'\xe2\x82'", text("\xe2\x82")}, {"'\xc3'''", text("\xc3'")}, {"'é''ß'", text("é'ß")},
	}
	for _, m := range strings.Split(marks, "") {
		l = append(l, piece{m, mark(m)})
	}
	return l
}

// wrong is texts with which no token begins, whatever stands behind them but for a letter, a digit or a quote.
var wrong = []string{
	// Digits that are no number.
	"00", "01", "-0", "-00", "-01", "000", "007", "0123", "-010", "00000000000000000001", "-00000000000000000001",
	"18446744073709551616", "18446744073709551617", "18446744073709551625", "100000000000000000000", "18446744073709551615000", "99999999999999999999", "20000000000000000000", "340282366920938463463374607431768211457",
	"-9223372036854775809", "-9223372036854775810", "-9300000000000000000", "-10000000000000000000", "-18446744073709551615", "-18446744073709551616", "-18446744073709551617", "-100000000000000000000",
	strings.Repeat("0", 1000), strings.Repeat("1", 1000), "-" + strings.Repeat("9", 1000), "1" + strings.Repeat("0", 255), "0" + strings.Repeat("1", 255),
	// A minus that no digit stands behind.
	"-", "--", "--1", "-a", "- 1", "-\n1", "-'1'", "-(1)", "-_1", "-.1", "-+1", "-//\n1", "-/1",
	// What begins no token.
	"_", "_a", "_1", "__", "/", "/ /", "/a", "/*a*/", "/\n/", "\r", "\r\n", "\v", "\f", "\x00", "\x01", "\x1f", "\x7f",
	"\"", "\"a\"", "\\", "`", "`a`", "+", "+1", "*", "#", "# a", "!", "?", ":", "<", ">", "[", "]", "@", "$", "%", "&", "|", "^", "~",
	// Characters of more than one byte, and those whose lowest eight bits are a letter's, a digit's, a mark's, a blank's.
	"é", "ß", "\u00a0", "\u0085", "\u2028", "\u3000", "\ufeff", "\u0301", "\ufffd", "\u0130", "\u0141", "\u0161", "\u0120", "\u017b", "\u012d", "\u0127", "\u0660", "\uff11", "\uff41", "\uff1b", "\u2212", "\u2019", "\U0001f98b", "\U0001d7ce", "\U00010061",
	// Bytes that are no text.
	"\x80", "\xa0", "\xb0", "\xe1", "\xff", "\xc3", "\xe2\x82", "\xf0\x9f\x98", "\xc0\xa0", "\xc1\xa1", "\xed\xa0\x80", "\xff\xff",
}

// open is texts that are not ended.
var open = []string{
	"'", "'a", "'a b", "'''", "'''''", "'''''''", "'a''", "'a''''", "'''a", "'''a''", "'a''b", "'a''b''", "'a''b''c", "'\n", "'\na\n", "'//", "'// a\n", "'a;", "';}", "'é", "'\xff", "'\r", "'-1", "'\"",
}

// Each token as a text of what P10.1 allows, but for numbers that are too great and texts with a quote behind them.
var (
	passed  = regexp.MustCompile(`^(?:[ \n\t]|//[^\n]*)*`)
	shapes  = []*regexp.Regexp{1: regexp.MustCompile(`^[a-zA-Z][a-zA-Z0-9_]*`), 2: regexp.MustCompile(`^-?[0-9]+`), 3: regexp.MustCompile(`^'(?:[^']|'')*'`), 4: regexp.MustCompile(`^[{}()=,.;]`)}
	numbers = regexp.MustCompile(`^(?:0|-?[1-9][0-9]*)$`)
)

// between tells whether n is one of the numbers that there are.
func between(n *big.Int) bool {
	least := new(big.Int).Neg(new(big.Int).Lsh(big.NewInt(1), 63))
	most := new(big.Int).Lsh(big.NewInt(1), 64)
	return n.Cmp(least) >= 0 && n.Cmp(most) < 0
}

// begun is the token that s begins with, by the shapes, and how many bytes it has; 0 if there is none.
func begun(s string) (lex.Token, int) {
	for kind, shape := range shapes {
		if kind == 0 || !shape.MatchString(s) {
			continue
		}
		is := shape.FindString(s)
		t := lex.Token{Kind: kind}
		switch kind {
		case 2:
			n, ok := new(big.Int).SetString(is, 10)
			if !ok || !numbers.MatchString(is) || !between(n) {
				return lex.Token{}, 0
			}
			t.Neg = n.Sign() < 0
			t.N = n.Abs(n).Uint64()
		case 3:
			// The last quote is no end, if another one stands behind it: then the text goes on, and none ends it.
			if strings.HasPrefix(s[len(is):], "'") {
				return lex.Token{}, 0
			}
			t.S = strings.ReplaceAll(is[1:len(is)-1], "''", "'")
		default:
			t.S = is
		}
		return t, len(is)
	}
	return lex.Token{}, 0
}

// wanted is P10.1 of a text that is not too long, by the shapes.
func wanted(s string) ([]lex.Token, int, api.Errno) {
	var l []lex.Token
	for at := 0; ; {
		at += len(passed.FindString(s[at:]))
		if at == len(s) {
			return append(l, lex.Token{At: at}), at, api.OK
		}
		t, size := begun(s[at:])
		if size == 0 {
			return nil, at, api.ErrText
		}
		l = append(l, put(t, at))
		at += size
	}
}

// agrees tells of what All answers otherwise than the shapes, and whether there are tokens.
func agrees(t *testing.T, s string) bool {
	t.Helper()
	l, n, e := lex.All(s, len(s))
	wantL, wantN, wantE := wanted(s)
	if e != wantE || n != wantN || !slices.Equal(l, wantL) {
		t.Fatalf("All of %q: %v, %d, %d; wanted %v, %d, %d", s, l, n, e, wantL, wantN, wantE)
	}
	return e == api.OK
}

// reads tells if All answers otherwise than with these tokens and the end behind them.
func reads(t *testing.T, s string, want ...lex.Token) {
	t.Helper()
	want = append(slices.Clone(want), lex.Token{Kind: 0, At: len(s)})
	l, n, e := lex.All(s, len(s))
	if e != api.OK || n != len(s) || !slices.Equal(l, want) {
		t.Errorf("All of %.200q: %v, %d, %d; wanted %v, %d", s, l, n, e, want, len(s))
	}
}

// fails tells if All answers otherwise than that no token begins at that place.
func fails(t *testing.T, s string, at int) {
	t.Helper()
	if l, n, e := lex.All(s, len(s)); e != api.ErrText || n != at || len(l) != 0 {
		t.Errorf("All of %.200q: %v, %d, %d; wanted ErrText and %d", s, l, n, e, at)
	}
}

// P10.1: the chapter's example, without and with a line feed at its end, and the kinds' numbers.
func TestExample(t *testing.T) {
	want := []lex.Token{name("a"), put(mark("="), 1), put(num(5, true), 2), put(mark(";"), 4)}
	reads(t, "a=-5;//x", want...)
	reads(t, "a=-5;//x\n", want...)
	if lex.End != 0 || lex.Name != 1 || lex.Number != 2 || lex.Text != 3 || lex.Mark != 4 {
		t.Error("the kinds of tokens are others")
	}
}

// P10.1
func TestTokens(t *testing.T) {
	for _, p := range pieces() {
		reads(t, p.text, p.is)
		for _, g := range gaps {
			reads(t, g+p.text, put(p.is, len(g)))
			reads(t, p.text+g, p.is)
			reads(t, g+p.text+g, put(p.is, len(g)))
		}
		for _, end := range []string{"//", "// ", "//'", "//\r", "//\xff", "// a b", "///", " //", "\n//"} {
			reads(t, p.text+end, p.is)
		}
	}
}

// P10.1: texts of the languages.
func TestTexts(t *testing.T) {
	reads(t, "message M { int32 a = 1; }",
		name("message"), put(name("M"), 8), put(mark("{"), 10), put(name("int32"), 12), put(name("a"), 18), put(mark("="), 20), put(num(1, false), 22), put(mark(";"), 23), put(mark("}"), 25))
	reads(t, "message M{int32 a 1;}",
		name("message"), put(name("M"), 8), put(mark("{"), 9), put(name("int32"), 10), put(name("a"), 16), put(num(1, false), 18), put(mark(";"), 19), put(mark("}"), 20))
	reads(t, "// one\nadd M.c = 3\tstring // two\n\tdefault 'it''s';",
		put(name("add"), 7), put(name("M"), 11), put(mark("."), 12), put(name("c"), 13), put(mark("="), 15), put(num(3, false), 17), put(name("string"), 19), put(name("default"), 34), put(text("it's"), 42), put(mark(";"), 49))
	reads(t, "a=(-1,2)", name("a"), put(mark("="), 1), put(mark("("), 2), put(num(1, true), 3), put(mark(","), 5), put(num(2, false), 6), put(mark(")"), 7))
}

// P10.1: the longest token that begins at a place is taken, without a blank between.
func TestSideBySide(t *testing.T) {
	reads(t, "5a", num(5, false), put(name("a"), 1))
	reads(t, "0a", num(0, false), put(name("a"), 1))
	reads(t, "0x10", num(0, false), put(name("x10"), 1))
	reads(t, "1e5", num(1, false), put(name("e5"), 1))
	reads(t, "-1a1", num(1, true), put(name("a1"), 2))
	reads(t, "a5", name("a5"))
	reads(t, "a01", name("a01"))
	reads(t, "a-5", name("a"), put(num(5, true), 1))
	reads(t, "a_-5", name("a_"), put(num(5, true), 2))
	reads(t, "1-2", num(1, false), put(num(2, true), 1))
	reads(t, "0-1", num(0, false), put(num(1, true), 1))
	reads(t, "-1-2-3", num(1, true), put(num(2, true), 2), put(num(3, true), 4))
	reads(t, "1.5", num(1, false), put(mark("."), 1), put(num(5, false), 2))
	reads(t, "M.a.b", name("M"), put(mark("."), 1), put(name("a"), 2), put(mark("."), 3), put(name("b"), 4))
	reads(t, "'a'b", text("a"), put(name("b"), 3))
	reads(t, "b'a'", name("b"), put(text("a"), 1))
	reads(t, "1'a'2", num(1, false), put(text("a"), 1), put(num(2, false), 4))
	reads(t, "'a'-1", text("a"), put(num(1, true), 3))
	reads(t, "''a''", text(""), put(name("a"), 2), put(text(""), 3))
	reads(t, "'a''b'", text("a'b"))
	reads(t, "'a' 'b'", text("a"), put(text("b"), 4))
	reads(t, "'a'//\n'b'", text("a"), put(text("b"), 6))
	reads(t, "'' ''", text(""), put(text(""), 3))
	reads(t, "'a'.'b'", text("a"), put(mark("."), 3), put(text("b"), 4))
	reads(t, "a//b\nc", name("a"), put(name("c"), 5))
	reads(t, "1//2\n3", num(1, false), put(num(3, false), 5))
	reads(t, "ab//b//\nc//", name("ab"), put(name("c"), 8))
	reads(t, "'//'//'", text("//"))
	fails(t, "0_1", 1)
	fails(t, "1_000", 1)
	fails(t, "1.05", 2)
	fails(t, "a/b", 1)
	fails(t, "a/", 1)
	fails(t, "5-", 1)
	fails(t, "a--1", 1)
	fails(t, "1-0", 1)
	fails(t, "aé", 1)
	fails(t, "'a'\r", 3)
}

// P10.1: each mark, twice side by side, and beside each other one.
func TestMarks(t *testing.T) {
	for _, a := range strings.Split(marks, "") {
		for _, b := range strings.Split(marks, "") {
			reads(t, a+b, mark(a), put(mark(b), 1))
			reads(t, a+" "+b, mark(a), put(mark(b), 2))
			reads(t, a+b+a, mark(a), put(mark(b), 1), put(mark(a), 2))
		}
	}
}

// P10.1: the names: each letter, digit and the underscore, at each place.
func TestNames(t *testing.T) {
	for _, c := range strings.Split(letters, "") {
		for _, d := range strings.Split(letters+digits+"_", "") {
			for _, s := range []string{c, c + d, c + d + d, c + "k" + d + "k", c + c + "_" + d, c + strings.Repeat(d, 100)} {
				reads(t, s, name(s))
				reads(t, "="+s+";", mark("="), put(name(s), 1), put(mark(";"), len(s)+1))
			}
		}
	}
	for _, size := range []int{api.MaxName, api.MaxName + 1, 255, 256, 257, 1 << 16, 1 << 20} {
		s := strings.Repeat("a_9Z", size/4+1)[:size]
		reads(t, s, name(s))
	}
}

// P10.1: texts without tokens.
func TestNothing(t *testing.T) {
	reads(t, "")
	for _, g := range gaps {
		reads(t, g)
		reads(t, g+g)
		reads(t, g+"//")
	}
	for _, s := range []string{"//", "// ", "///", "//a", "//'", "//\r", "//\x00", "//é", "//\xff", " //", "\n//", "//\n//", "//a//", strings.Repeat(" ", 1000), strings.Repeat("//", 1000), strings.Repeat("//\n", 1000)} {
		reads(t, s)
	}
}

// P10.1: no token begins where one is wrong: first, in the midst, and last.
func TestWrong(t *testing.T) {
	for _, w := range wrong {
		fails(t, w, 0)
		for _, g := range gaps {
			fails(t, g+w, len(g))
			fails(t, w+" "+g, 0)
		}
		for _, ahead := range []string{"{", "a;", "'a'", "'' ", "a = 1;\n", "a //\n", "// '\n"} {
			fails(t, ahead+w, len(ahead))
			fails(t, ahead+w+";", len(ahead))
			fails(t, ahead+w+" a", len(ahead))
			fails(t, ahead+w+"\n"+w, len(ahead))
		}
	}
}

// P10.1: no token begins where a text is not ended.
func TestNotEnded(t *testing.T) {
	for _, w := range open {
		fails(t, w, 0)
		for _, ahead := range []string{" ", "{", "a", "1", "a;", "'a' ", "a = 1;\n", "// '\n", "''\n"} {
			fails(t, ahead+w, len(ahead))
			fails(t, ahead+w+" ", len(ahead))
			fails(t, ahead+w+" = 1;\n", len(ahead))
		}
		reads(t, "//"+strings.ReplaceAll(w, "\n", " "))
	}
}

// P10.1: the first place at which none begins is told, of many.
func TestFirstPlace(t *testing.T) {
	for at := range 300 {
		fails(t, strings.Repeat("a", at)+"é é", at)
		fails(t, strings.Repeat(" ", at)+"-0 _", at)
		fails(t, strings.Repeat(";", at)+"'a", at)
		fails(t, "//"+strings.Repeat("_", at)+"\n_", at+3)
		fails(t, "'"+strings.Repeat("_", at)+"'_", at+2)
		fails(t, strings.Repeat("1 ", at)+"01 02", 2*at)
	}
}

// P10.1: each text of one byte and of two, and those of three with a byte of each kind between.
func TestEveryShortText(t *testing.T) {
	one, two := 0, 0
	for c := range 256 {
		if agrees(t, string([]byte{byte(c)})) {
			one++
		}
		for d := range 256 {
			if agrees(t, string([]byte{byte(c), byte(d)})) {
				two++
			}
			for _, between := range []byte(" \n\ta0_-'/;\xff") {
				agrees(t, string([]byte{byte(c), between, byte(d)}))
			}
		}
	}
	// A blank, a letter, a digit or a mark; two of them, but for 00 to 09, a minus and 1 to 9, an underscore behind a letter, two quotes, two slashes.
	if one != 3+52+10+8 || two != 73*73-10+9+52+1+1 {
		t.Errorf("%d texts of one byte have tokens, %d of two", one, two)
	}
}

// P10.1: each text of up to six of some bytes.
func TestEveryTextOfSome(t *testing.T) {
	for _, some := range []string{"a0'/\n ", "01-_a", "'/-=\n", "é'/\xff", "19- "} {
		parts := strings.Split(some, "")
		var grow func(s string, n int)
		grow = func(s string, n int) {
			agrees(t, s)
			if n == 0 {
				return
			}
			for _, p := range parts {
				grow(s+p, n-1)
			}
		}
		grow("", 6)
	}
}

// P10.1: texts by chance, of tokens, gaps and what is wrong.
func TestByChance(t *testing.T) {
	r := rand.New(rand.NewSource(101))
	var parts []string
	for _, p := range pieces() {
		parts = append(parts, p.text)
	}
	const tries = 40000
	good := 0
	for range tries {
		var s strings.Builder
		for range r.Intn(12) {
			switch k := r.Intn(40); {
			case k == 0:
				s.WriteString(wrong[r.Intn(len(wrong))])
			case k == 1:
				s.WriteString(open[r.Intn(len(open))])
			case k < 15:
				s.WriteString(gaps[r.Intn(len(gaps))])
			default:
				s.WriteString(parts[r.Intn(len(parts))])
			}
		}
		if agrees(t, s.String()) {
			good++
		}
	}
	if good < tries/4 || good > tries*9/10 {
		t.Errorf("the material is poor: %d of %d have tokens", good, tries)
	}
}

// P10.1: how many bytes a text may have, ahead of all else.
func TestMost(t *testing.T) {
	for _, s := range []string{"", "a", "é", "_", "'a", "a = 1;", "// a", "    ", strings.Repeat("a ", 3000), strings.Repeat("-", 6001)} {
		wantL, wantN, wantE := wanted(s)
		for _, most := range []int{len(s), len(s) + 1, len(s) + 100, room, 1<<63 - 1} {
			if l, n, e := lex.All(s, most); e != wantE || n != wantN || !slices.Equal(l, wantL) {
				t.Errorf("All of %.20q, at most %d: %v, %d, %d", s, most, l, n, e)
			}
		}
		for _, most := range []int{len(s) - 1, len(s) - 2, len(s) / 2, 0, -1, -2, -1 << 31, -1 << 63} {
			if most >= len(s) {
				continue
			}
			if l, n, e := lex.All(s, most); e != api.ErrLong || n != 0 || len(l) != 0 {
				t.Errorf("All of %.20q, at most %d: %v, %d, %d; wanted ErrLong", s, most, l, n, e)
			}
		}
	}
	// It is bytes that are counted, not characters.
	if _, _, e := lex.All("'é'", 3); e != api.ErrLong {
		t.Error("four bytes are taken for three:", e)
	}
	reads(t, "'é'", text("é"))
}

// P10.2: Quote.
func TestQuote(t *testing.T) {
	known := [][2]string{
		{"", "''"}, {"'", "''''"}, {"''", "''''''"}, {"'''", "''''''''"}, {"a", "'a'"}, {"it's", "'it''s'"}, {"'a", "'''a'"}, {"a'", "'a'''"}, {"a''b", "'a''''b'"}, {"'a'", "'''a'''"},
		{"\n", "'\n'"}, {"// a", "'// a'"}, {"a = 1;", "'a = 1;'"}, {"\\", "'\\'"}, {"\"", "'\"'"}, {"é'ß", "'é''ß'"}, {"\xff", "'\xff'"}, {"\xff'\xfe", "'\xff''\xfe'"}, {"\x00\r", "'\x00\r'"}, {"\u2019", "'\u2019'"},
	}
	for _, k := range known {
		if s := lex.Quote(k[0]); s != k[1] {
			t.Errorf("Quote of %q: %q; wanted %q", k[0], s, k[1])
		}
		reads(t, lex.Quote(k[0]), text(k[0]))
	}
	for c := range 256 {
		for d := range 256 {
			for _, s := range []string{string([]byte{byte(c)}), string([]byte{byte(c), byte(d)}), string([]byte{byte(c), '\'', byte(d)}), string([]byte{'\'', byte(c), byte(d), '\''})} {
				reads(t, lex.Quote(s), text(s))
			}
		}
	}
	for n := range 100 {
		s := strings.Repeat("'", n)
		if q := lex.Quote(s); q != strings.Repeat("'", 2*n+2) {
			t.Errorf("Quote of %d quotes: %q", n, q)
		}
		reads(t, lex.Quote(s), text(s))
		// Quoted twice it is the text of the token.
		reads(t, lex.Quote(lex.Quote(s)), text(lex.Quote(s)))
	}
	for _, s := range slices.Concat(wrong, open, gaps) {
		reads(t, lex.Quote(s), text(s))
		reads(t, lex.Quote(s+"'"+s), text(s+"'"+s))
	}
}

// P10.2: Digits.
func TestDigits(t *testing.T) {
	known := []struct {
		n   uint64
		neg bool
		s   string
	}{
		{0, false, "0"}, {0, true, "0"}, {1, false, "1"}, {1, true, "-1"}, {5, true, "-5"}, {9, false, "9"}, {10, false, "10"}, {10, true, "-10"}, {99, false, "99"}, {100, true, "-100"},
		{1 << 31, false, "2147483648"}, {1 << 31, true, "-2147483648"}, {1 << 32, false, "4294967296"},
		{1<<63 - 1, false, "9223372036854775807"}, {1<<63 - 1, true, "-9223372036854775807"}, {1 << 63, false, "9223372036854775808"}, {1 << 63, true, "-9223372036854775808"},
		{1<<64 - 1, false, "18446744073709551615"},
		// No number is so far below 0, but its digits are told.
		{1<<63 + 1, true, "-9223372036854775809"}, {1<<64 - 1, true, "-18446744073709551615"},
	}
	for _, k := range known {
		if s := lex.Digits(k.n, k.neg); s != k.s {
			t.Errorf("Digits of %d, %t: %q; wanted %q", k.n, k.neg, s, k.s)
		}
		if !k.neg || k.n <= 1<<63 {
			reads(t, k.s, num(k.n, k.neg && k.n != 0))
		} else {
			fails(t, k.s, 0)
		}
	}
	r := rand.New(rand.NewSource(102))
	for at := range 20000 {
		n := r.Uint64() >> r.Intn(64)
		neg := at%2 == 0 && n <= 1<<63
		want := new(big.Int).SetUint64(n)
		if neg {
			want.Neg(want)
		}
		if s := lex.Digits(n, neg); s != want.String() {
			t.Fatalf("Digits of %d, %t: %q", n, neg, s)
		}
		reads(t, lex.Digits(n, neg), num(n, neg && n != 0))
	}
}

// P10.1, P10.2: the numbers next to each number of one digit and 0s, and next to each power of 2, on both sides of the last ones that there are.
func TestLastNumbers(t *testing.T) {
	check := func(n *big.Int) {
		t.Helper()
		s := n.String()
		if !between(n) {
			fails(t, s, 0)
			return
		}
		is := num(new(big.Int).Abs(n).Uint64(), n.Sign() < 0)
		reads(t, s, is)
		if got := lex.Digits(is.N, is.Neg); got != s {
			t.Errorf("Digits of %s: %s", s, got)
		}
	}
	around := func(n *big.Int) {
		t.Helper()
		for d := int64(-12); d <= 12; d++ {
			near := new(big.Int).Add(n, big.NewInt(d))
			check(near)
			check(near.Neg(near))
		}
	}
	for bits := range uint(200) {
		around(new(big.Int).Lsh(big.NewInt(1), bits))
	}
	for zeros := range int64(60) {
		n := new(big.Int).Exp(big.NewInt(10), big.NewInt(zeros), nil)
		for first := range int64(9) {
			around(new(big.Int).Mul(n, big.NewInt(first+1)))
		}
	}
}

// told is the token as a text, by Quote and Digits.
func told(t lex.Token) string {
	switch t.Kind {
	case lex.Number:
		return lex.Digits(t.N, t.Neg)
	case lex.Text:
		return lex.Quote(t.S)
	}
	return t.S
}

// P10.2, P10.3: any two tokens with a blank between are read as they are.
func TestTwo(t *testing.T) {
	l := pieces()
	for _, a := range l {
		if s := told(a.is); s != a.text {
			t.Errorf("%q is told as %q", a.text, s)
		}
		for _, b := range l {
			for _, g := range gaps {
				reads(t, a.text+g+b.text, a.is, put(b.is, len(a.text)+len(g)))
			}
		}
	}
}

// P10.3: many tokens with a blank between are read as they are, and told again as they were.
func TestManyWithBlanks(t *testing.T) {
	r := rand.New(rand.NewSource(103))
	l := pieces()
	for range 3000 {
		var s strings.Builder
		var want []lex.Token
		for at := range r.Intn(40) {
			if at > 0 {
				s.WriteString(gaps[r.Intn(len(gaps))])
			}
			p := l[r.Intn(len(l))]
			if p.is.Kind == lex.Text && r.Intn(2) == 0 {
				b := make([]byte, r.Intn(10))
				for i := range b {
					b[i] = "'\n/ a\xff"[r.Intn(6)]
				}
				p.is = text(string(b))
			}
			want = append(want, put(p.is, s.Len()))
			s.WriteString(told(p.is))
		}
		reads(t, s.String(), want...)
		agrees(t, s.String())
	}
}

// P10.1: long texts are read in one go.
func TestMuch(t *testing.T) {
	const many = 1 << 20
	for _, g := range []string{" ", "//\n", "//", "// _ '"} {
		reads(t, strings.Repeat(g, many))
	}
	reads(t, strings.Repeat(" ", many)+"z", put(name("z"), many))
	reads(t, strings.Repeat("'", 2*many), text(strings.Repeat("'", many-1)))
	fails(t, strings.Repeat("0", many), 0)
	fails(t, "1"+strings.Repeat("0", many), 0)
	fails(t, "'"+strings.Repeat("''", many), 0)
	fails(t, "'"+strings.Repeat("a", many), 0)
	l, n, e := lex.All(strings.Repeat("a 1;", many), room)
	if e != api.OK || n != 4*many || len(l) != 3*many+1 {
		t.Fatal(len(l), n, e)
	}
	for i, x := range l[:len(l)-1] {
		if want := []lex.Token{put(name("a"), i/3*4), put(num(1, false), i/3*4+2), put(mark(";"), i/3*4+3)}[i%3]; x != want {
			t.Fatal(i, x)
		}
	}
	s := strings.Repeat("it's // ''\n", many)
	reads(t, lex.Quote(s), text(s))
}

// Rules 3 and 4: the same is answered again, whatever was asked between and whatever became of an answer.
func TestAgain(t *testing.T) {
	for range 3 {
		for _, p := range pieces() {
			agrees(t, p.text)
			l, _, _ := lex.All(p.text+" "+p.text, room)
			for i := range l {
				l[i] = put(text("changed"), -1)
			}
			reads(t, p.text+" "+p.text, p.is, put(p.is, len(p.text)+1))
		}
		for _, w := range slices.Concat(wrong, open) {
			agrees(t, w)
		}
	}
}
