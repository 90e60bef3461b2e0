package tag_test

import (
	"math"
	"slices"
	"testing"

	"ecdysis/api"
	"ecdysis/tag"
)

// known is tags, worked out by hand.
var known = []struct {
	num, wire int
	u         uint64
}{
	{1, 0, 8},
	{1, 1, 9},
	{1, 2, 10},
	{1, 5, 13},
	{2, 0, 16},
	{2, 5, 21},
	{15, 2, 122},
	{16, 0, 128},
	{18999, 1, 151993},
	{19000, 0, 152000},
	{19999, 2, 159994},
	{20000, 5, 160005},
	{1<<28 - 1, 5, 2147483645},
	{1 << 28, 0, 2147483648},
	{536870910, 0, 4294967280},
	{536870911, 0, 4294967288},
	{536870911, 1, 4294967289},
	{536870911, 2, 4294967290},
	{536870911, 5, 4294967293},
}

// strange is numbers behind which no field stands, the least and the greatest int among them.
var strange = []int{
	math.MinInt, math.MinInt + 1, math.MinInt32, -1 << 29, -8, -2, -1, 0,
	api.MaxNum + 1, api.MaxNum + 2, 1 << 30, math.MaxInt32, 1 << 32, 1<<32 + 1, 1 << 61, 1<<61 + 1, math.MaxInt - 1, math.MaxInt,
}

// odd is what is no wire type.
var odd = []int{
	math.MinInt, math.MinInt + 1, math.MinInt + 5, -8, -7, -6, -5, -4, -3, -2, -1,
	3, 4, 6, 7, 8, 9, 10, 13, 16, 1 << 8, 1 << 32, 1<<32 + 2, math.MaxInt - 1, math.MaxInt,
}

// wires is the four wire types.
var wires = []int{0, 1, 2, 5}

// numbers is those a field on the wire can have: all small ones, those about the ones that no schema may have, those about every power of two, the greatest ones.
func numbers() []int {
	var l []int
	for n := 1; n < 1000; n++ {
		l = append(l, n, api.MaxNum+1-n)
	}
	for n := 18990; n < 20010; n++ {
		l = append(l, n)
	}
	for i := 10; i < 29; i++ {
		l = append(l, 1<<i-1, 1<<i, 1<<i+1)
	}
	return l
}

// P4.1
func TestKnownTags(t *testing.T) {
	for _, k := range known {
		if !tag.Right(k.num, k.wire) {
			t.Errorf("Right(%d, %d): false", k.num, k.wire)
		}
		if u, ok := tag.Of(k.num, k.wire); u != k.u || !ok {
			t.Errorf("Of(%d, %d): %d, %t; wanted %d", k.num, k.wire, u, ok, k.u)
		}
		if num, wire, ok := tag.Split(k.u); num != k.num || wire != k.wire || !ok {
			t.Errorf("Split(%d): %d, %d, %t; wanted %d, %d", k.u, num, wire, ok, k.num, k.wire)
		}
	}
}

// P4.1: each number with each wire type, and with those beside them.
func TestWireTypes(t *testing.T) {
	for _, num := range numbers() {
		for wire := -10; wire < 20; wire++ {
			right := slices.Contains(wires, wire)
			if tag.Right(num, wire) != right {
				t.Fatalf("Right(%d, %d): %t", num, wire, !right)
			}
			want := uint64(0)
			if right {
				want = uint64(8*num + wire)
			}
			if u, ok := tag.Of(num, wire); u != want || ok != right {
				t.Fatalf("Of(%d, %d): %d, %t; wanted %d", num, wire, u, ok, want)
			}
		}
	}
}

// P4.1: 0 and false of what is no wire type, whatever the number.
func TestNoSuchWireType(t *testing.T) {
	for _, wire := range odd {
		for _, num := range append(numbers(), strange...) {
			if tag.Right(num, wire) {
				t.Fatalf("Right(%d, %d): true", num, wire)
			}
			if u, ok := tag.Of(num, wire); u != 0 || ok {
				t.Fatalf("Of(%d, %d): %d, %t", num, wire, u, ok)
			}
		}
	}
}

// P4.1: 0 and false of a number that no field can have, also with a wire type that would make the sum a tag.
func TestNoSuchNumber(t *testing.T) {
	for _, num := range strange {
		for _, wire := range append([]int{8, 9, 10, 13, 16, -8*num + 8}, wires...) {
			if tag.Right(num, wire) {
				t.Errorf("Right(%d, %d): true", num, wire)
			}
			if u, ok := tag.Of(num, wire); u != 0 || ok {
				t.Errorf("Of(%d, %d): %d, %t", num, wire, u, ok)
			}
		}
	}
}

// split tells whether Split says of u what the chapter says: the wire type is what is left of u by eight.
func split(t *testing.T, u uint64) {
	t.Helper()
	right := slices.Contains(wires, int(u%8)) && 1 <= u/8 && u/8 <= 536870911
	num, wire := 0, 0
	if right {
		num, wire = int(u/8), int(u%8)
	}
	if n, w, ok := tag.Split(u); n != num || w != wire || ok != right {
		t.Fatalf("Split(%d): %d, %d, %t; wanted %d, %d, %t", u, n, w, ok, num, wire, right)
	}
}

// P4.1: what is a tag and what is not, word by word.
func TestSplitWordByWord(t *testing.T) {
	for u := range uint64(1 << 13) {
		split(t, u)
		split(t, 1<<32-1-u)
		split(t, 1<<32+u)
		split(t, 1<<35+u)
		split(t, 1<<63+u)
		split(t, math.MaxUint64-u)
	}
	for u := uint64(8 * 18990); u < 8*20010; u++ {
		split(t, u)
	}
	for i := range 64 {
		for d := range uint64(32) {
			split(t, uint64(1)<<i+d-16)
		}
	}
}

// P4.1: zeros and false where nothing stands behind: no such wire type, the number 0, too great a number.
func TestSplitOfNoTag(t *testing.T) {
	none := []uint64{0, 1, 2, 3, 4, 5, 6, 7, 11, 12, 14, 15, 4294967291, 4294967292, 4294967294, 4294967295}
	for _, wire := range []uint64{0, 1, 2, 5} {
		none = append(none, 1<<32+wire, 1<<32+8+wire, 1<<35+8+wire, 1<<63+wire, 1<<63+8+wire, math.MaxUint64-7+wire)
	}
	for _, u := range none {
		if num, wire, ok := tag.Split(u); num != 0 || wire != 0 || ok {
			t.Errorf("Split(%d): %d, %d, %t", u, num, wire, ok)
		}
	}
}

// P4.1: the numbers that a schema's field may have: all on the wire but those from 19000 to 19999.
func TestField(t *testing.T) {
	for _, num := range []int{1, 2, 18998, 18999, 20000, 20001, 1 << 28, 536870910, 536870911} {
		if !tag.Field(num) {
			t.Errorf("Field(%d): false", num)
		}
	}
	for _, num := range append([]int{19000, 19001, 19500, 19998, 19999, -19000, -19500, -19999}, strange...) {
		if tag.Field(num) {
			t.Errorf("Field(%d): true", num)
		}
	}
	for _, num := range numbers() {
		if may := num/1000 != 19; tag.Field(num) != may {
			t.Errorf("Field(%d): %t", num, !may)
		}
	}
}

// P4.1: a number that no schema may have can still stand on the wire.
func TestKeptNumbersOnTheWire(t *testing.T) {
	for num := 19000; num < 20000; num++ {
		for _, wire := range wires {
			if !tag.Right(num, wire) {
				t.Fatalf("Right(%d, %d): false", num, wire)
			}
		}
	}
}

// P4.2: no two of them have one tag, and each has its own back.
func TestEachIsOnesAlone(t *testing.T) {
	type pair struct{ num, wire int }
	of := map[uint64]pair{}
	for _, num := range numbers() {
		for _, wire := range wires {
			p := pair{num, wire}
			u, ok := tag.Of(num, wire)
			if !ok {
				t.Fatalf("Of(%d, %d): false", num, wire)
			}
			if q, there := of[u]; there && q != p {
				t.Fatalf("%d is the tag of %v and of %v", u, p, q)
			}
			of[u] = p
			if n, w, ok := tag.Split(u); n != num || w != wire || !ok {
				t.Fatalf("Split(Of(%d, %d)): %d, %d, %t", num, wire, n, w, ok)
			}
		}
	}
}

// P4.2: what Split takes apart, Of puts together again, and nothing else.
func TestOneTagOnly(t *testing.T) {
	for u := range uint64(1 << 14) {
		for _, v := range []uint64{u, 1<<32 - 1 - u, 1<<32 + u, 1<<33 + u, math.MaxUint64 - u} {
			num, wire, ok := tag.Split(v)
			if !ok {
				continue
			}
			if w, ok := tag.Of(num, wire); w != v || !ok {
				t.Fatalf("Of(Split(%d)): %d, %t", v, w, ok)
			}
		}
	}
}
