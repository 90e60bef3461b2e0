package tree_test

import (
	"cmp"
	"math"
	"math/rand"
	"runtime"
	"slices"
	"strconv"
	"strings"
	"testing"
	"unsafe"

	"ecdysis/api"
	"ecdysis/tree"
)

// told is a text of the tree, which no other tree has: nil lists are told as empty ones.
func told(t api.Tree) string {
	var b strings.Builder
	tell(&b, t)
	return b.String()
}

// tell writes that text.
func tell(b *strings.Builder, t api.Tree) {
	b.WriteByte('{')
	for _, s := range t.Slots {
		b.WriteString(" " + strconv.Itoa(s.Num) + ":")
		tellVals(b, s.Vals)
	}
	for _, x := range t.Rest {
		b.WriteString(" <" + strconv.Itoa(x.Num) + "," + strconv.Itoa(x.Wire) + "," + strconv.FormatUint(x.N, 10) + "," + strconv.Quote(x.S) + ">")
	}
	b.WriteByte('}')
}

// tellVals writes the values' text.
func tellVals(b *strings.Builder, l []api.Val) {
	b.WriteByte('[')
	for _, v := range l {
		b.WriteString("(" + strconv.FormatUint(v.N, 10) + "," + strconv.Quote(v.S))
		for _, inner := range v.M {
			tell(b, inner)
		}
		b.WriteByte(')')
	}
	b.WriteByte(']')
}

// toldVals is a text of the values, which no others have.
func toldVals(l []api.Val) string {
	var b strings.Builder
	tellVals(&b, l)
	return b.String()
}

// short is the text, if it is not too long to be told.
func short(s string) string {
	if len(s) > 3000 {
		return s[:3000] + " .."
	}
	return s
}

// is asks that the answer is that one.
func is[T comparable](t *testing.T, what string, got, want T) {
	t.Helper()
	if got != want {
		t.Errorf("%s: %v; wanted %v", short(what), got, want)
	}
}

// are asks that the values are those.
func are(t *testing.T, what string, got, want []api.Val) {
	t.Helper()
	if toldVals(got) != toldVals(want) {
		t.Errorf("%s: %s; wanted %s", short(what), short(toldVals(got)), short(toldVals(want)))
	}
}

// tells asks that the tree is that one.
func tells(t *testing.T, what string, got, want api.Tree) {
	t.Helper()
	if told(got) != told(want) {
		t.Errorf("%s: %s; wanted %s", short(what), short(told(got)), short(told(want)))
	}
}

// sames asks whether both are the same, from both sides.
func sames(t *testing.T, a, b api.Tree, want bool) {
	t.Helper()
	is(t, "Same of "+told(a)+" and "+told(b), tree.Same(a, b), want)
	is(t, "Same of "+told(b)+" and "+told(a), tree.Same(b, a), want)
}

// of is a tree of those slots.
func of(slots ...api.Slot) api.Tree {
	return api.Tree{Slots: slots}
}

// slot is a slot of those values.
func slot(num int, vals ...api.Val) api.Slot {
	return api.Slot{Num: num, Vals: vals}
}

// n is the value that is a number.
func n(u uint64) api.Val {
	return api.Val{N: u}
}

// s is the value that is a text.
func s(text string) api.Val {
	return api.Val{S: text}
}

// m is the value that is those trees; of none it is as a number 0.
func m(l ...api.Tree) api.Val {
	return api.Val{M: l}
}

// rest is a tree of no slots and those fields.
func rest(l ...api.Raw) api.Tree {
	return api.Tree{Rest: l}
}

// nest is a tree that is so deep; each holds the next one among its values, and the innermost one is empty.
func nest(deep int) api.Tree {
	var t api.Tree
	for range deep - 1 {
		t = of(slot(1, m(t)))
	}
	return t
}

// good is a tree of all there can be: numbers, texts and trees, four deep; slots of one value and of several; fields in Rest, also within; empty trees within. It is made anew each time.
func good() api.Tree {
	leaf := api.Tree{Slots: []api.Slot{slot(1, n(3)), slot(5, s("leaf"), s(""))}, Rest: []api.Raw{{Num: 9, Wire: api.WireBytes, S: "unknown"}}}
	middle := api.Tree{Slots: []api.Slot{slot(2, m(leaf), m(api.Tree{})), slot(3, n(1), n(2), n(1))}, Rest: []api.Raw{{Num: 8, Wire: api.WireVarint, N: 7}, {Num: 8, Wire: api.Wire64, N: 7}}}
	other := of(slot(4, s("x")))
	return api.Tree{
		Slots: []api.Slot{slot(1, n(5)), slot(2, s("text")), slot(4, m(middle), m(other)), slot(7, m(of(slot(1, m(nest(2)))))), slot(api.MaxNum, n(math.MaxUint64))},
		Rest:  []api.Raw{{Num: 10, Wire: api.Wire32, N: 1}, {Num: 3, Wire: api.WireBytes, S: "abc"}},
	}
}

// P19.1: the chapter's example.
func TestExample(t *testing.T) {
	is(t, "Deep of the empty tree", tree.Deep(api.Tree{}), 1)
	is(t, "Count of the empty tree", tree.Count(api.Tree{}), 0)
}

// P19.1, P19.2: the empty tree.
func TestTheEmptyTree(t *testing.T) {
	sames(t, api.Tree{}, api.Tree{}, true)
	sames(t, api.Tree{}, api.Tree{Slots: []api.Slot{}, Rest: []api.Raw{}}, true)
	is(t, "Deep of empty lists", tree.Deep(api.Tree{Slots: []api.Slot{}, Rest: []api.Raw{}}), 1)
	is(t, "Count of empty lists", tree.Count(api.Tree{Slots: []api.Slot{}, Rest: []api.Raw{}}), 0)
	are(t, "Get of the empty tree", tree.Get(api.Tree{}, 0), nil)
	are(t, "Get of the empty tree", tree.Get(api.Tree{}, 1), nil)
	tells(t, "With of the empty tree and no values", tree.With(api.Tree{}, 1, nil), api.Tree{})
	tells(t, "With of the empty tree and no values", tree.With(api.Tree{}, 0, []api.Val{}), api.Tree{})
	tells(t, "With of the empty tree", tree.With(api.Tree{}, 4, []api.Val{n(7), s("a")}), of(slot(4, n(7), s("a"))))
	tells(t, "Copy of the empty tree", tree.Copy(api.Tree{}), api.Tree{})
	for _, x := range []api.Tree{good(), of(slot(0)), of(slot(1, n(0))), rest(api.Raw{})} {
		sames(t, api.Tree{}, x, false)
	}
}

// P19.1: how deep trees are.
func TestDeep(t *testing.T) {
	for _, x := range []struct {
		t    api.Tree
		want int
	}{
		{of(slot(1)), 1},
		{of(slot(1, n(1), s("a")), slot(2, api.Val{M: []api.Tree{}})), 1},
		{rest(api.Raw{Num: 1}, api.Raw{Num: 2, Wire: 2, S: "\x0a\x00"}), 1},
		// A value whose tree is the empty one, and one without a tree.
		{of(slot(1, m(api.Tree{}))), 2},
		{of(slot(1, m())), 1},
		{of(slot(1, m(), m(api.Tree{}))), 2},
		{of(slot(1, m(of(slot(1, m()))))), 2},
		{of(slot(1, m(of(slot(1, m(api.Tree{})))))), 3},
		// A number and a text beside a tree don't matter.
		{of(slot(1, api.Val{N: 1, S: "a", M: []api.Tree{{}}})), 2},
		// The deepest one stands first, in the middle or last: of slots, of values, of a value's trees.
		{of(slot(1, m(nest(4))), slot(2, m(nest(2))), slot(3, m(nest(1)))), 5},
		{of(slot(1, m(nest(2))), slot(2, m(nest(4))), slot(3, m(nest(1)))), 5},
		{of(slot(1, m(nest(2))), slot(2, m(nest(1))), slot(3, m(nest(4)))), 5},
		{of(slot(1, m(nest(4)), m(nest(2)), n(1))), 5},
		{of(slot(1, n(1), m(nest(4)), m(nest(2)))), 5},
		{of(slot(1, m(nest(2)), n(1), m(nest(4)))), 5},
		{of(slot(1, m(nest(4), nest(2), nest(1)))), 5},
		{of(slot(1, m(nest(2), nest(4), nest(1)))), 5},
		{of(slot(1, m(nest(2), nest(1), nest(4)))), 5},
		// Two that are as deep count once.
		{of(slot(1, m(nest(3)), m(nest(3))), slot(2, m(nest(3), nest(3)))), 4},
		// Slots that don't rise, and several of one number, are slots too.
		{of(slot(3, n(1)), slot(1, m(nest(2))), slot(1, m(nest(6)))), 7},
		{good(), 4},
	} {
		is(t, "Deep of "+told(x.t), tree.Deep(x.t), x.want)
	}
	for deep := 1; deep < 50; deep++ {
		is(t, "Deep of a nest", tree.Deep(nest(deep)), deep)
	}
}

// P19.1: how much trees have.
func TestCount(t *testing.T) {
	x := api.Raw{Num: 1}
	for _, x := range []struct {
		t    api.Tree
		want int
	}{
		{of(slot(1), slot(2)), 0},
		{of(slot(1, n(0))), 1},
		{of(slot(1, n(1), s("abc"), n(1))), 3},
		{of(slot(1, n(1)), slot(2, s("a"), s("b")), slot(3)), 3},
		{rest(x), 1},
		{rest(x, x, x), 3},
		// A value is counted once, with or without a tree, and its tree's after it.
		{of(slot(1, m())), 1},
		{of(slot(1, m(api.Tree{}))), 1},
		{of(slot(1, m(api.Tree{}, api.Tree{}))), 1},
		{of(slot(1, m(rest(x, x), rest(x)))), 4},
		{of(slot(1, m(rest(x)), m(rest(x)))), 4},
		{of(slot(1, m(of(slot(1, n(1), n(2)))))), 3},
		{api.Tree{Slots: []api.Slot{slot(1, m(api.Tree{Slots: []api.Slot{slot(1, n(1), m(rest(x)))}, Rest: []api.Raw{x}}))}, Rest: []api.Raw{x, x}}, 7},
		// Slots that don't rise, and several of one number, are slots too.
		{of(slot(2, n(1)), slot(1, n(1)), slot(2, n(1))), 3},
		{good(), 22},
	} {
		is(t, "Count of "+told(x.t), tree.Count(x.t), x.want)
	}
	for deep := 1; deep < 50; deep++ {
		is(t, "Count of a nest", tree.Count(nest(deep)), deep-1)
	}
}

// P19.2: what stands where.
func TestGet(t *testing.T) {
	x := good()
	are(t, "Get of the first number", tree.Get(x, 1), []api.Val{n(5)})
	are(t, "Get of the second number", tree.Get(x, 2), []api.Val{s("text")})
	are(t, "Get of a number in the middle", tree.Get(x, 4), x.Slots[2].Vals)
	are(t, "Get of the last number but one", tree.Get(x, 7), []api.Val{m(of(slot(1, m(nest(2)))))})
	are(t, "Get of the last number", tree.Get(x, api.MaxNum), []api.Val{n(math.MaxUint64)})
	// Numbers that no slot has: those that only a tree within has, or a field of Rest, or a place.
	for _, num := range []int{0, 3, 5, 6, 8, 9, 10, api.MaxNum - 1, api.MaxNum + 1, -1, -4, math.MinInt, math.MaxInt} {
		are(t, "Get of no number "+strconv.Itoa(num), tree.Get(x, num), nil)
	}
}

// P19.2: of several slots of one number the first one is got, also if it has no values; slots need not rise.
func TestGetTheFirst(t *testing.T) {
	x := of(slot(5, n(1)), slot(2, n(2)), slot(5, n(3)), slot(2), slot(7), slot(7, n(4)), slot(-3, n(5), n(6)), slot(0, n(7)))
	for num, want := range map[int][]api.Val{5: {n(1)}, 2: {n(2)}, 7: nil, -3: {n(5), n(6)}, 0: {n(7)}, 1: nil, 3: nil, 6: nil, 8: nil} {
		are(t, "Get of "+strconv.Itoa(num)+" of "+told(x), tree.Get(x, num), want)
	}
	far := of(slot(math.MaxInt, n(1)), slot(math.MinInt, n(2)))
	are(t, "Get of the greatest number", tree.Get(far, math.MaxInt), []api.Val{n(1)})
	are(t, "Get of the least number", tree.Get(far, math.MinInt), []api.Val{n(2)})
}

// P19.2: where values are laid.
func TestWith(t *testing.T) {
	a, b, c, d := n(1), s("b"), m(nest(3)), n(9)
	x := of(slot(2, a), slot(4, b), slot(6, c, a))
	for _, w := range []struct {
		t    api.Tree
		num  int
		vals []api.Val
		want api.Tree
	}{
		// Ahead of all, between two, behind all.
		{x, 1, []api.Val{d}, of(slot(1, d), slot(2, a), slot(4, b), slot(6, c, a))},
		{x, 3, []api.Val{d}, of(slot(2, a), slot(3, d), slot(4, b), slot(6, c, a))},
		{x, 5, []api.Val{d}, of(slot(2, a), slot(4, b), slot(5, d), slot(6, c, a))},
		{x, 7, []api.Val{d}, of(slot(2, a), slot(4, b), slot(6, c, a), slot(7, d))},
		// In the place of one that is there.
		{x, 2, []api.Val{d}, of(slot(2, d), slot(4, b), slot(6, c, a))},
		{x, 4, []api.Val{d, c}, of(slot(2, a), slot(4, d, c), slot(6, c, a))},
		{x, 6, []api.Val{d}, of(slot(2, a), slot(4, b), slot(6, d))},
		// No values.
		{x, 2, nil, of(slot(4, b), slot(6, c, a))},
		{x, 4, []api.Val{}, of(slot(2, a), slot(6, c, a))},
		{x, 6, nil, of(slot(2, a), slot(4, b))},
		{x, 1, nil, x},
		{x, 3, nil, x},
		{x, 7, []api.Val{}, x},
		// Any values, also ones that are none of a message.
		{x, 4, []api.Val{n(0)}, of(slot(2, a), slot(4, n(0)), slot(6, c, a))},
		{x, 5, []api.Val{{N: 1, S: "s", M: []api.Tree{{}, nest(2)}}}, of(slot(2, a), slot(4, b), slot(5, api.Val{N: 1, S: "s", M: []api.Tree{{}, nest(2)}}), slot(6, c, a))},
		// The greatest and the least numbers.
		{x, math.MaxInt, []api.Val{d}, of(slot(2, a), slot(4, b), slot(6, c, a), slot(math.MaxInt, d))},
		{x, math.MinInt, []api.Val{d}, of(slot(math.MinInt, d), slot(2, a), slot(4, b), slot(6, c, a))},
		{x, 0, []api.Val{d}, of(slot(0, d), slot(2, a), slot(4, b), slot(6, c, a))},
		{of(slot(math.MinInt, a), slot(math.MaxInt, b)), math.MinInt, []api.Val{d}, of(slot(math.MinInt, d), slot(math.MaxInt, b))},
		{of(slot(math.MinInt, a), slot(math.MaxInt, b)), math.MaxInt, []api.Val{d}, of(slot(math.MinInt, a), slot(math.MaxInt, d))},
		{of(slot(math.MinInt, a), slot(math.MaxInt, b)), -1, []api.Val{d}, of(slot(math.MinInt, a), slot(-1, d), slot(math.MaxInt, b))},
		{of(slot(math.MinInt, a), slot(math.MaxInt, b)), math.MinInt, nil, of(slot(math.MaxInt, b))},
		// Slots without values stay where they are, but for those of the number.
		{of(slot(1), slot(3), slot(5)), 3, nil, of(slot(1), slot(5))},
		{of(slot(1), slot(3), slot(5)), 3, []api.Val{d}, of(slot(1), slot(3, d), slot(5))},
		{of(slot(1), slot(3), slot(5)), 4, []api.Val{d}, of(slot(1), slot(3), slot(4, d), slot(5))},
		{of(slot(1), slot(3), slot(5)), 4, nil, of(slot(1), slot(3), slot(5))},
	} {
		tells(t, "With "+strconv.Itoa(w.num)+" "+toldVals(w.vals)+" of "+told(w.t), tree.With(w.t, w.num, w.vals), w.want)
	}
}

// P19.2: of slots that don't rise, and of several of one number.
func TestWithOfAnySlots(t *testing.T) {
	a, b, c, d := n(1), n(2), n(3), n(9)
	for _, w := range []struct {
		slots []api.Slot
		num   int
		want  []api.Slot
	}{
		// Ahead of the first greater one, though lesser ones stand behind it.
		{[]api.Slot{slot(5, a), slot(1, b)}, 3, []api.Slot{slot(3, d), slot(5, a), slot(1, b)}},
		{[]api.Slot{slot(2, a), slot(7, b), slot(1, c), slot(8, a)}, 6, []api.Slot{slot(2, a), slot(6, d), slot(7, b), slot(1, c), slot(8, a)}},
		{[]api.Slot{slot(3, a), slot(2, b), slot(1, c)}, 4, []api.Slot{slot(3, a), slot(2, b), slot(1, c), slot(4, d)}},
		{[]api.Slot{slot(3, a), slot(2, b), slot(1, c)}, 0, []api.Slot{slot(0, d), slot(3, a), slot(2, b), slot(1, c)}},
		// Where a slot of the number stood does not matter.
		{[]api.Slot{slot(5, a), slot(3, b)}, 3, []api.Slot{slot(3, d), slot(5, a)}},
		{[]api.Slot{slot(3, a), slot(1, b)}, 3, []api.Slot{slot(1, b), slot(3, d)}},
		{[]api.Slot{slot(3, a), slot(1, b), slot(5, c)}, 3, []api.Slot{slot(1, b), slot(3, d), slot(5, c)}},
		// All of the number go, wherever they stand.
		{[]api.Slot{slot(3, a), slot(3, b), slot(3, c)}, 3, []api.Slot{slot(3, d)}},
		{[]api.Slot{slot(3), slot(1, a), slot(3, b), slot(5, c), slot(3, b)}, 3, []api.Slot{slot(1, a), slot(3, d), slot(5, c)}},
		// Several of another number stay as they are.
		{[]api.Slot{slot(1, a), slot(1, b), slot(5, a), slot(5), slot(5, b)}, 3, []api.Slot{slot(1, a), slot(1, b), slot(3, d), slot(5, a), slot(5), slot(5, b)}},
		{[]api.Slot{slot(1, a), slot(1, b), slot(5, a)}, 5, []api.Slot{slot(1, a), slot(1, b), slot(5, d)}},
	} {
		in := api.Tree{Slots: w.slots, Rest: good().Rest}
		what := "With " + strconv.Itoa(w.num) + " of " + told(in)
		tells(t, what, tree.With(in, w.num, []api.Val{d}), api.Tree{Slots: w.want, Rest: in.Rest})
		without := slices.DeleteFunc(slices.Clone(w.want), func(s api.Slot) bool { return s.Num == w.num })
		tells(t, what+" and no values", tree.With(in, w.num, nil), api.Tree{Slots: without, Rest: in.Rest})
	}
}

// P19.2: Rest stays as it is, also where a field of it has the number, and trees within are not touched.
func TestWithChangesNothingElse(t *testing.T) {
	x := good()
	for _, num := range []int{1, 2, 3, 4, 7, 8, 9, 10} {
		for _, vals := range [][]api.Val{nil, {n(77)}} {
			got := tree.With(x, num, vals)
			tells(t, "the Rest of With "+strconv.Itoa(num), api.Tree{Rest: got.Rest}, api.Tree{Rest: x.Rest})
			for _, s := range x.Slots {
				if s.Num != num {
					are(t, "With "+strconv.Itoa(num)+" at "+strconv.Itoa(s.Num), tree.Get(got, s.Num), s.Vals)
				}
			}
			is(t, "Count of With "+strconv.Itoa(num), tree.Count(got), tree.Count(x)-tree.Count(of(slot(1, tree.Get(x, num)...)))+len(vals))
		}
	}
}

// P19.2: a copy is the same.
func TestCopy(t *testing.T) {
	for _, x := range []api.Tree{
		good(), nest(1), nest(9), rest(api.Raw{Num: -1, Wire: 7, N: math.MaxUint64, S: "x\x00\xff"}), of(slot(3), slot(-1), slot(3, n(1))),
		of(slot(math.MinInt, api.Val{N: math.MaxUint64, S: "\xff", M: []api.Tree{good(), {}, good()}})),
		of(slot(1, m()), slot(2, m(api.Tree{})), slot(3, m(api.Tree{}, api.Tree{}))),
	} {
		tells(t, "Copy", tree.Copy(x), x)
		sames(t, tree.Copy(x), x, true)
	}
}

// reach is each tree within t, t among them, as a place that may be changed.
func reach(t *api.Tree) []*api.Tree {
	l := []*api.Tree{t}
	for i := range t.Slots {
		for k := range t.Slots[i].Vals {
			for j := range t.Slots[i].Vals[k].M {
				l = append(l, reach(&t.Slots[i].Vals[k].M[j])...)
			}
		}
	}
	return l
}

// swaps is changes that put two neighbours of the list into each other's place.
func swaps[T any](l []T) (changes []func()) {
	for i := 1; i < len(l); i++ {
		changes = append(changes, func() { l[i-1], l[i] = l[i], l[i-1] })
	}
	return changes
}

// sizes is changes of how many there are: one less, at each place, and one more at both ends.
func sizes[T any](l *[]T, more T) (changes []func()) {
	for i := range *l {
		changes = append(changes, func() { *l = slices.Delete(slices.Clone(*l), i, i+1) })
	}
	return append(changes, func() { *l = append(slices.Clone(*l), more) }, func() { *l = append([]T{more}, *l...) })
}

// changes is what can be done to one thing of the tree, not of those within it.
func changes(t *api.Tree) (l []func()) {
	l = append(l, swaps(t.Slots)...)
	l = append(l, swaps(t.Rest)...)
	l = append(l, sizes(&t.Slots, slot(77))...)
	l = append(l, sizes(&t.Rest, api.Raw{})...)
	for i := range t.Slots {
		s := &t.Slots[i]
		l = append(l, func() { s.Num++ }, func() { s.Num = -s.Num }, func() { s.Num ^= math.MinInt })
		l = append(l, swaps(s.Vals)...)
		l = append(l, sizes(&s.Vals, n(0))...)
		for k := range s.Vals {
			l = append(l, valChanges(&s.Vals[k])...)
		}
	}
	for i := range t.Rest {
		x := &t.Rest[i]
		l = append(l, func() { x.Num++ }, func() { x.Wire++ }, func() { x.Wire = -1 - x.Wire }, func() { x.N++ }, func() { x.N ^= 1 << 63 },
			func() { x.S += "\x00" }, func() { x.S = "a" + x.S }, func() { x.S = "\xff" + x.S[min(1, len(x.S)):] })
	}
	return l
}

// valChanges is what can be done to one thing of the value.
func valChanges(v *api.Val) []func() {
	l := []func(){func() { v.N++ }, func() { v.N ^= 1 << 32 }, func() { v.N ^= 1 << 63 }, func() { v.S += "\x00" }, func() { v.S = " " + v.S }, func() { v.S = "\xff" + v.S[min(1, len(v.S)):] }}
	l = append(l, swaps(v.M)...)
	return append(l, sizes(&v.M, api.Tree{})...)
}

// all is all changes that can be done to one thing of the tree, however deep it is.
func all(t *api.Tree) (l []func()) {
	for _, inner := range reach(t) {
		l = append(l, changes(inner)...)
	}
	return l
}

// wide is a tree with a value of each kind first, in the middle and last, at each depth; no two things beside one another are alike. It is made anew each time.
func wide(deep int) api.Tree {
	if deep == 0 {
		return api.Tree{}
	}
	at := uint64(deep)
	inner := func() api.Tree { return wide(deep - 1) }
	return api.Tree{
		Slots: []api.Slot{slot(1, m(inner()), n(at), s("a")), slot(2, s("b"), m(inner()), n(at+1)), slot(9, n(at+2), s("c"), m(inner(), rest(api.Raw{Num: 1}), inner()))},
		Rest:  []api.Raw{{Num: 5, N: at}, {Num: 5, Wire: 2, S: "r"}, {Num: 6, Wire: 1, N: 3}},
	}
}

// P19.1: two trees that differ in one thing alone, wherever it is, are not the same. P19.2: nor is it the copy of one of them.
func TestUnlikeInOnePlace(t *testing.T) {
	for _, fresh := range []func() api.Tree{good, func() api.Tree { return wide(2) }, func() api.Tree { return nest(6) }, func() api.Tree { return of(slot(0)) }} {
		want := fresh()
		was := told(want)
		x := fresh()
		sames(t, want, x, true)
		for i := range all(&x) {
			x := fresh()
			all(&x)[i]()
			if told(x) == was {
				// Two that stood in each other's place were alike.
				sames(t, want, x, true)
				continue
			}
			sames(t, want, x, false)
			sames(t, tree.Copy(x), x, true)
			sames(t, tree.Copy(x), want, false)
		}
	}
}

// P19.1: of what holds what does matter: the same things in other places are not the same.
func TestUnlikeInShape(t *testing.T) {
	l := []api.Tree{
		{}, of(slot(1)), of(slot(1), slot(1)), of(slot(1, n(0))), of(slot(1, n(0), n(0))), of(slot(1, n(0)), slot(1)), of(slot(1), slot(1, n(0))), of(slot(1, n(0)), slot(1, n(0))),
		of(slot(1, m(api.Tree{}))), of(slot(1, m(api.Tree{}, api.Tree{}))), of(slot(1, m(api.Tree{}), m(api.Tree{}))), of(slot(1, m(api.Tree{}), n(0))), of(slot(1, n(0), m(api.Tree{}))),
		of(slot(1, m(of(slot(1))))), of(slot(1, m(of(slot(1, n(0)))))), of(slot(1, m(nest(2)))), of(slot(1, m(nest(3)))), of(slot(1, m(nest(2), api.Tree{}))), of(slot(1, m(api.Tree{}, nest(2)))),
		rest(api.Raw{}), rest(api.Raw{}, api.Raw{}), of(slot(1, m(rest(api.Raw{})))), {Slots: []api.Slot{slot(1, m(api.Tree{}))}, Rest: []api.Raw{{}}},
		of(slot(1, n('1'))), of(slot(1, s("1"))), of(slot(1, s(""), s("1"))), of(slot(1, s("1"), s(""))), of(slot(1, s("11"))), of(slot(1, s("1"), s("1"))),
		rest(api.Raw{Num: 1}), rest(api.Raw{Wire: 1}), rest(api.Raw{N: 1}), rest(api.Raw{S: "1"}), of(slot(1, n(1))), of(slot(0, n(1))), of(slot(0)),
	}
	for i, a := range l {
		for k, b := range l {
			is(t, "Same of "+told(a)+" and "+told(b), tree.Same(a, b), i == k)
		}
	}
}

// empties is the tree with what way makes of each empty list, at each depth.
func empties(t api.Tree, way func(int) int) api.Tree {
	out := api.Tree{Slots: empty[api.Slot](way), Rest: append(empty[api.Raw](way), t.Rest...)}
	for _, s := range t.Slots {
		vals := empty[api.Val](way)
		for _, v := range s.Vals {
			trees := empty[api.Tree](way)
			for _, inner := range v.M {
				trees = append(trees, empties(inner, way))
			}
			vals = append(vals, api.Val{N: v.N, S: v.S, M: trees})
		}
		out.Slots = append(out.Slots, api.Slot{Num: s.Num, Vals: vals})
	}
	return out
}

// empty is nil, an empty list, or one with room.
func empty[T any](way func(int) int) []T {
	return [][]T{nil, {}, make([]T, 0, 2)}[way(3)]
}

// P19.1, P19.2: nil lists are empty ones, at every depth, for all functions.
func TestNilLists(t *testing.T) {
	r := rand.New(rand.NewSource(191))
	for _, x := range []api.Tree{{}, of(slot(1)), of(slot(1, n(0))), nest(5), good(), wide(2)} {
		for i := range 30 {
			way := r.Intn
			if i < 3 {
				way = func(int) int { return i }
			}
			y := empties(x, way)
			sames(t, x, y, true)
			sames(t, y, empties(x, r.Intn), true)
			is(t, "Deep", tree.Deep(y), tree.Deep(x))
			is(t, "Count", tree.Count(y), tree.Count(x))
			sames(t, tree.Copy(y), x, true)
			sames(t, tree.With(y, 2, empty[api.Val](way)), tree.With(x, 2, nil), true)
			are(t, "Get", tree.Get(y, 1), tree.Get(x, 1))
		}
	}
}

// deepOf is what Deep is by the words.
func deepOf(t api.Tree) int {
	most := 1
	for _, s := range t.Slots {
		for _, v := range s.Vals {
			for _, inner := range v.M {
				most = max(most, 1+deepOf(inner))
			}
		}
	}
	return most
}

// getOf is what Get is by the words.
func getOf(t api.Tree, num int) []api.Val {
	at := slices.IndexFunc(t.Slots, func(s api.Slot) bool { return s.Num == num })
	if at < 0 {
		return nil
	}
	return t.Slots[at].Vals
}

// withOf is what With is by the words.
func withOf(t api.Tree, num int, vals []api.Val) api.Tree {
	out, laid := api.Tree{Rest: t.Rest}, len(vals) == 0
	for _, s := range t.Slots {
		if s.Num > num && !laid {
			out.Slots, laid = append(out.Slots, slot(num, vals...)), true
		}
		if s.Num != num {
			out.Slots = append(out.Slots, s)
		}
	}
	if !laid {
		out.Slots = append(out.Slots, slot(num, vals...))
	}
	return out
}

// chance is a tree by chance, of few numbers and texts, so that two are the same from time to time; most often its slots rise.
func chance(r *rand.Rand, deep int) api.Tree {
	var t api.Tree
	for range r.Intn(4) {
		t.Slots = append(t.Slots, slot(number(r), chances(r, deep)...))
	}
	if r.Intn(4) > 0 {
		slices.SortStableFunc(t.Slots, func(a, b api.Slot) int { return cmp.Compare(a.Num, b.Num) })
	}
	for range r.Intn(3) * r.Intn(2) {
		t.Rest = append(t.Rest, api.Raw{Num: number(r), Wire: r.Intn(3), N: uint64(r.Intn(2)), S: text(r)})
	}
	return t
}

// chances is values by chance.
func chances(r *rand.Rand, deep int) (l []api.Val) {
	for range r.Intn(3) {
		var v api.Val
		if r.Intn(3) == 0 {
			v.N = uint64(r.Intn(2))
		}
		if r.Intn(3) == 0 {
			v.S = text(r)
		}
		for range r.Intn(3) * min(deep, 1) {
			v.M = append(v.M, chance(r, deep-1))
		}
		l = append(l, v)
	}
	return l
}

// number is a slot's number by chance.
func number(r *rand.Rand) int {
	return []int{1, 2, 3, 4, 5, 0, -1, math.MinInt, math.MaxInt, api.MaxNum}[min(r.Intn(10), r.Intn(10))]
}

// text is a text by chance.
func text(r *rand.Rand) string {
	return []string{"", "", "a", "b", "\xff"}[r.Intn(5)]
}

// P19.1: trees by chance are the same just if their texts are.
func TestSameByChance(t *testing.T) {
	r := rand.New(rand.NewSource(192))
	var l []api.Tree
	var texts []string
	for range 1000 {
		x := chance(r, r.Intn(3))
		l, texts = append(l, x), append(texts, told(x))
	}
	same := 0
	for i, a := range l {
		for k, b := range l {
			want := texts[i] == texts[k]
			if tree.Same(a, b) != want {
				t.Fatalf("Same of %s and %s: wanted %v", texts[i], texts[k], want)
			}
			if want && i < k && len(a.Slots) > 0 {
				same++
			}
		}
	}
	if same < 20 {
		t.Errorf("the material is poor: %d are the same", same)
	}
}

// P19.1: trees by chance, in which one thing is changed, however deep, are the same just if their texts are.
func TestChangedByChance(t *testing.T) {
	r := rand.New(rand.NewSource(196))
	for range 20000 {
		x := chance(r, r.Intn(4))
		c := tree.Copy(x)
		tells(t, "Copy", c, x)
		l := all(&x)
		l[r.Intn(len(l))]()
		sames(t, x, c, told(x) == told(c))
	}
}

// P19.1, P19.2, P19.3: trees by chance, by the words; what With laid, Get tells.
func TestByTheWords(t *testing.T) {
	r := rand.New(rand.NewSource(193))
	for range 20000 {
		x, vals, num := chance(r, r.Intn(5)), chances(r, r.Intn(3)), number(r)
		is(t, "Deep of "+told(x), tree.Deep(x), deepOf(x))
		text := told(x)
		// Neither a bracket nor a quote is in one of these texts, so that each of them is a value's or a field's.
		is(t, "Count of "+text, tree.Count(x), strings.Count(text, "(")+strings.Count(text, "<"))
		are(t, "Get of "+text, tree.Get(x, num), getOf(x, num))
		what := "With " + strconv.Itoa(num) + " " + toldVals(vals) + " of " + text
		got := tree.With(x, num, vals)
		tells(t, what, got, withOf(x, num, vals))
		are(t, "Get of "+what, tree.Get(got, num), vals)
		for _, s := range x.Slots {
			if s.Num != num {
				are(t, "Get of another number of "+what, tree.Get(got, s.Num), tree.Get(x, s.Num))
			}
		}
		// With of what is got, and With once more, change no more.
		tells(t, what+", again", tree.With(got, num, vals), got)
		tells(t, what+", of what is got", tree.With(got, num, tree.Get(got, num)), got)
		tells(t, what+", and away", tree.With(got, num, nil), tree.With(x, num, nil))
		if t.Failed() {
			t.FailNow()
		}
	}
}

// P19.3: what With laid, Get tells: of each number, each place and any values, and of no values none.
func TestWhatWithLaidGetTells(t *testing.T) {
	l := [][]api.Val{nil, {}, {n(0)}, {s("")}, {n(7), n(7)}, {m()}, {m(api.Tree{})}, {m(good()), n(1), s("x")}, {{N: 1, S: "a", M: []api.Tree{nest(3), {}}}}, {m(rest(api.Raw{Num: 1, Wire: 2, S: "r"}))}}
	for _, x := range []api.Tree{{}, good(), wide(2), of(slot(5), slot(3, n(1)), slot(5, n(2)), slot(4, n(3))), of(slot(math.MaxInt, n(1)), slot(math.MinInt, n(1)))} {
		for _, num := range []int{0, 1, 2, 3, 4, 5, 6, 7, 8, 9, 10, api.MaxNum - 1, api.MaxNum, api.MaxNum + 1, -1, math.MinInt, math.MinInt + 1, math.MaxInt - 1, math.MaxInt} {
			for _, vals := range l {
				are(t, "Get of With "+strconv.Itoa(num)+" of "+told(x), tree.Get(tree.With(x, num, vals), num), vals)
			}
		}
	}
	// All numbers from the greatest on, and then from the least on, laid one after the other.
	var down, up api.Tree
	for i := range 60 {
		down = tree.With(down, 60-i, []api.Val{n(uint64(60 - i))})
		up = tree.With(up, i+1, []api.Val{n(uint64(i + 1))})
	}
	sames(t, down, up, true)
	for i := range 62 {
		var want []api.Val
		if 1 <= i && i <= 60 {
			want = []api.Val{n(uint64(i))}
			is(t, "a slot's number", down.Slots[i-1].Num, i)
		}
		are(t, "Get", tree.Get(down, i), want)
	}
}

// room is where a list or a text is, with the room behind it.
type room struct {
	from, to uintptr
	text     bool
}

// listRoom is where the list is; of a list without room nothing.
func listRoom[T any](l []T) []room {
	if cap(l) == 0 {
		return nil
	}
	var x T
	p := uintptr(unsafe.Pointer(unsafe.SliceData(l)))
	return []room{{from: p, to: p + uintptr(cap(l))*unsafe.Sizeof(x)}}
}

// textRoom is where the text is.
func textRoom(s string) []room {
	if s == "" {
		return nil
	}
	p := uintptr(unsafe.Pointer(unsafe.StringData(s)))
	return []room{{p, p + uintptr(len(s)), true}}
}

// rooms is where all lists and texts of the tree are.
func rooms(t api.Tree) []room {
	l := slices.Concat(listRoom(t.Slots), listRoom(t.Rest))
	for _, x := range t.Rest {
		l = append(l, textRoom(x.S)...)
	}
	for _, s := range t.Slots {
		l = append(l, valRooms(s.Vals)...)
	}
	return l
}

// valRooms is where all lists and texts of the values are.
func valRooms(vals []api.Val) []room {
	l := listRoom(vals)
	for _, v := range vals {
		l = append(l, textRoom(v.S)...)
		l = append(l, listRoom(v.M)...)
		for _, inner := range v.M {
			l = append(l, rooms(inner)...)
		}
	}
	return l
}

// apart asks that no list of the answer shares anything with another one of it, and nothing of it with what was handed in.
func apart(t *testing.T, what string, answer, in []room) {
	t.Helper()
	for i, a := range answer {
		for _, b := range in {
			if a.from < b.to && b.from < a.to {
				t.Fatalf("%s shares something with what was handed in", what)
			}
		}
		for _, b := range answer[:i] {
			if !a.text && !b.text && a.from < b.to && b.from < a.to {
				t.Fatalf("two lists of %s share something", what)
			}
		}
	}
}

// P19.2 and rule 3: answers share nothing with what is handed in, and no two lists of one share anything.
func TestNothingIsShared(t *testing.T) {
	r := rand.New(rand.NewSource(194))
	l := []api.Tree{good(), wide(2), nest(8), empties(good(), func(int) int { return 2 }), empties(wide(2), r.Intn)}
	for range 300 {
		l = append(l, empties(chance(r, 3), r.Intn))
	}
	for _, x := range l {
		in := rooms(x)
		apart(t, "Copy", rooms(tree.Copy(x)), in)
		for _, num := range []int{0, 1, 2, 3, 4, 5, 7, 9} {
			apart(t, "Get", valRooms(tree.Get(x, num)), in)
			apart(t, "With of no values", rooms(tree.With(x, num, nil)), in)
			vals := empties(of(slot(1, n(1), s("text"), m(good()))), r.Intn).Slots[0].Vals
			apart(t, "With", rooms(tree.With(x, num, vals)), append(valRooms(vals), in...))
		}
		// What is not there any more could lie where an answer is.
		runtime.KeepAlive(x)
	}
}

// P19.2 and rule 3: what stands in several places of what is handed in stands apart in the answer.
func TestSharedWithin(t *testing.T) {
	g := good()
	vals := []api.Val{n(1), m(g), m(g)}
	x := api.Tree{Slots: []api.Slot{{Num: 1, Vals: vals}, {Num: 2, Vals: vals[:2]}, {Num: 3, Vals: vals[1:]}}, Rest: g.Rest}
	in := rooms(x)
	tells(t, "Copy", tree.Copy(x), x)
	apart(t, "Copy", rooms(tree.Copy(x)), in)
	apart(t, "Get", valRooms(tree.Get(x, 1)), in)
	// Values of the tree itself, laid at another number and at their own.
	for _, num := range []int{0, 1, 2, 3, 4} {
		got := tree.With(x, num, x.Slots[0].Vals)
		tells(t, "With", got, withOf(x, num, vals))
		apart(t, "With", rooms(got), in)
	}
	runtime.KeepAlive(x)
}

// roomy is the tree with room behind each list, in which something stands that must stay.
func roomy(t api.Tree) api.Tree {
	out := api.Tree{Slots: []api.Slot{}, Rest: append(slices.Clone(t.Rest), api.Raw{S: "behind"})[:len(t.Rest)]}
	for _, s := range t.Slots {
		out.Slots = append(out.Slots, api.Slot{Num: s.Num, Vals: roomyVals(s.Vals)})
	}
	out.Slots = append(out.Slots, slot(-77), slot(-78))[:len(t.Slots)]
	return out
}

// roomyVals is the values with room behind each list.
func roomyVals(l []api.Val) []api.Val {
	out := []api.Val{}
	for _, v := range l {
		trees := []api.Tree{}
		for _, inner := range v.M {
			trees = append(trees, roomy(inner))
		}
		out = append(out, api.Val{N: v.N, S: v.S, M: append(trees, rest(api.Raw{S: "behind"}))[:len(v.M)]})
	}
	return append(out, s("behind"))[:len(l)]
}

// opened is the tree with all that stands in its lists' room.
func opened(t api.Tree) api.Tree {
	out := api.Tree{Rest: t.Rest[:cap(t.Rest)]}
	for _, s := range t.Slots[:cap(t.Slots)] {
		out.Slots = append(out.Slots, api.Slot{Num: s.Num, Vals: openedVals(s.Vals)})
	}
	return out
}

// openedVals is the values with all that stands in their lists' room.
func openedVals(l []api.Val) (out []api.Val) {
	for _, v := range l[:cap(l)] {
		var trees []api.Tree
		for _, inner := range v.M[:cap(v.M)] {
			trees = append(trees, opened(inner))
		}
		out = append(out, api.Val{N: v.N, S: v.S, M: trees})
	}
	return out
}

// P19.1, P19.2 and rule 3: what is handed in stays as it was, also in the room behind lists.
func TestNothingIsChanged(t *testing.T) {
	r := rand.New(rand.NewSource(195))
	for i := range 2000 {
		x, vals := roomy(chance(r, 3)), roomyVals(chances(r, 2))
		if i == 0 {
			x, vals = roomy(good()), roomyVals([]api.Val{n(1), m(good())})
		}
		num := number(r)
		was, were := told(opened(x)), toldVals(openedVals(vals))
		tree.Same(x, x)
		tree.Deep(x)
		tree.Count(x)
		for _, num := range []int{num, 1, 2, 3, 4} {
			tree.Get(x, num)
			tree.With(x, num, vals)
			tree.With(x, num, nil)
		}
		tree.Copy(x)
		is(t, "what is handed in", told(opened(x)), was)
		is(t, "values that are handed in", toldVals(openedVals(vals)), were)
	}
}

// spoil changes all that the tree's lists hold, and what stands behind them in their room.
func spoil(t api.Tree) {
	for _, inner := range reach(&t) {
		for _, s := range inner.Slots {
			spoilVals(s.Vals)
		}
	}
	slots, fields := t.Slots[:cap(t.Slots)], t.Rest[:cap(t.Rest)]
	for i := range slots {
		slots[i] = slot(-7, s("spoilt"))
	}
	for i := range fields {
		fields[i] = api.Raw{Num: -7}
	}
}

// spoilVals changes all that the values' lists hold.
func spoilVals(l []api.Val) {
	l = l[:cap(l)]
	for i := range l {
		for _, inner := range l[i].M[:cap(l[i].M)] {
			spoil(inner)
		}
		clear(l[i].M[:cap(l[i].M)])
		l[i] = s("spoilt")
	}
}

// P19.2 and rule 3: what becomes of an answer changes nothing that is handed in, nor the other way round.
func TestAnswersAreNew(t *testing.T) {
	for _, num := range []int{0, 1, 2, 4, 7, 8, api.MaxNum} {
		x, vals := good(), []api.Val{m(good()), n(1)}
		was, were := told(x), toldVals(vals)
		spoil(tree.Copy(x))
		spoilVals(tree.Get(x, num))
		spoil(tree.With(x, num, vals))
		spoil(tree.With(x, num, nil))
		is(t, "what is handed in", told(x), was)
		is(t, "values that are handed in", toldVals(vals), were)
		got, laid, away, copied := tree.Get(x, num), tree.With(x, num, vals), tree.With(x, num, nil), tree.Copy(x)
		spoil(x)
		spoilVals(vals)
		x, vals = good(), []api.Val{m(good()), n(1)}
		are(t, "Get", got, getOf(x, num))
		tells(t, "With", laid, withOf(x, num, vals))
		tells(t, "With of no values", away, withOf(x, num, nil))
		tells(t, "Copy", copied, x)
	}
}

// P19.2: one thing of a copy changed, wherever it is, changes nothing of what was copied, nor the other way round.
func TestCopyChangedAllOver(t *testing.T) {
	for _, fresh := range []func() api.Tree{good, func() api.Tree { return wide(2) }} {
		x := fresh()
		was := told(x)
		for i := range all(&x) {
			c := tree.Copy(x)
			all(&c)[i]()
			is(t, "what was copied", told(x), was)
			y := fresh()
			c = tree.Copy(y)
			all(&y)[i]()
			is(t, "the copy", told(c), was)
		}
	}
}

// Limits: 2^16 trees nested in one another, and very many things beside one another: all functions end, in time.
func TestMuch(t *testing.T) {
	const deep = 1 << 16
	x := nest(deep)
	is(t, "Deep of a very deep tree", tree.Deep(x), deep)
	is(t, "Count of a very deep tree", tree.Count(x), deep-1)
	is(t, "Same of very deep trees", tree.Same(x, nest(deep)), true)
	is(t, "Same of very deep trees", tree.Same(x, nest(deep-1)), false)
	is(t, "Same of a very deep tree and its copy", tree.Same(tree.Copy(x), x), true)
	is(t, "Same of a very deep tree and With of what is got", tree.Same(tree.With(api.Tree{}, 1, tree.Get(x, 1)), x), true)
	const many = 300000
	var slots, vals, fields api.Tree
	vals.Slots = []api.Slot{{Num: 1}}
	for i := range many {
		slots.Slots = append(slots.Slots, slot(2*i, n(uint64(i))))
		vals.Slots[0].Vals = append(vals.Slots[0].Vals, m(of(slot(1, s("a")))))
		fields.Rest = append(fields.Rest, api.Raw{Num: i})
	}
	for i, x := range []api.Tree{slots, vals, fields} {
		is(t, "Deep of a very wide tree", tree.Deep(x), 1+i%2)
		is(t, "Count of a very wide tree", tree.Count(x), many*(1+i%2))
		is(t, "Same of a very wide tree and its copy", tree.Same(tree.Copy(x), x), true)
		laid := tree.With(x, many+1, []api.Val{n(7)})
		is(t, "Count of With of a very wide tree", tree.Count(laid), many*(1+i%2)+1)
		are(t, "Get of a very wide tree", tree.Get(laid, many+1), []api.Val{n(7)})
		is(t, "Same of a very wide tree, and away again", tree.Same(tree.With(laid, many+1, nil), x), true)
	}
}
