package row_test

import (
	"bytes"
	"math"
	"slices"
	"strings"
	"testing"

	"tabulary/api"
	"tabulary/codec"
	"tabulary/row"
	"tabulary/value"
)

const (
	lowest   = math.MinInt64
	greatest = math.MaxInt64
	nanBits  = 0x7ff8000000000001
)

var (
	infinity = math.Inf(1)
	minus0   = math.Copysign(0, -1)
)

// A list is a row; it is short for the type that the calls take.
type list = []api.Value

// Rows are a list of them, or a bag.
type rows = [][]api.Value

func null() api.Value { return api.Value{} }

func truth(n int64) api.Value { return api.Value{Kind: api.Bool, Int: n} }

func whole(n int64) api.Value { return api.Value{Kind: api.Int, Int: n} }

func float(f float64) api.Value { return api.Value{Kind: api.Float, Float: f} }

func text(s string) api.Value { return api.Value{Kind: api.Text, Text: s} }

// of is a row of Ints.
func of(numbers ...int64) list {
	var r list
	for _, n := range numbers {
		r = append(r, whole(n))
	}
	return r
}

// times is a row of the same value so many times.
func times(n int, v api.Value) list { return slices.Repeat(list{v}, n) }

// nans are some of them: the one that is put, quiet and signalling ones, of either sign.
func nans() []api.Value {
	var l []api.Value
	for _, bits := range []uint64{nanBits, nanBits - 1, 1<<64 - 1, 0x7ff0000000000001, 0xfff8000000000000} {
		l = append(l, float(math.Float64frombits(bits)))
	}
	return l
}

// rights are values that may be, each less than the next one.
func rights() []api.Value {
	return []api.Value{
		null(), truth(0), truth(1), whole(lowest), whole(-1), whole(0), whole(1), whole(greatest),
		float(-infinity), float(-1), float(0), float(0.5), float(infinity), float(math.NaN()),
		text(""), text("\x00"), text("a"), text("ab"), text("b"), text(strings.Repeat("b", 64)), text("\xff"),
	}
}

// wrongs are values that may not be.
func wrongs() []api.Value {
	return []api.Value{
		{Kind: -1}, {Kind: 5}, {Kind: 256}, {Kind: 258, Int: 1}, truth(2), truth(-1), text(strings.Repeat("a", 65)),
		{Int: 1}, {Float: 1}, {Text: "a"}, {Kind: api.Int, Int: 7, Float: 1}, {Kind: api.Int, Int: 7, Text: "a"},
		{Kind: api.Float, Float: 7, Int: 1}, {Kind: api.Text, Text: "a", Float: math.NaN()},
	}
}

// alike tells whether two rows are so bit by bit.
func alike(a, b list) bool {
	return slices.EqualFunc(a, b, func(a, b api.Value) bool {
		return a.Kind == b.Kind && a.Int == b.Int && math.Float64bits(a.Float) == math.Float64bits(b.Float) && a.Text == b.Text
	})
}

func wantRows(t *testing.T, got, need rows) {
	t.Helper()
	if !slices.EqualFunc(got, need, alike) {
		t.Fatalf("%v, not %v", got, need)
	}
}

// deep is a copy of rows.
func deep(l rows) rows {
	var c rows
	for _, r := range l {
		c = append(c, slices.Clone(r))
	}
	return c
}

// P5.1

func TestRight(t *testing.T) {
	may := rows{nil, {}, {null()}, of(1, 2), rights(), nans(), {float(minus0)}, times(199, whole(1)), times(200, null()), times(200, text("a"))}
	for _, r := range may {
		if !row.Right(r) {
			t.Errorf("%v may be", r)
		}
	}
	for _, n := range []int{201, 256, 400, 456, 1000} {
		if row.Right(times(n, null())) {
			t.Errorf("a row of %d values may not be", n)
		}
	}
}

func TestRightOfWhatMayNotBe(t *testing.T) {
	for _, w := range wrongs() {
		for i := range 3 {
			r := of(1, 2, 3)
			r[i] = w
			if row.Right(r) {
				t.Errorf("%v may not be", r)
			}
		}
		for _, i := range []int{0, 199} {
			r := times(200, whole(1))
			r[i] = w
			if row.Right(r) {
				t.Errorf("a row with %v in the place %d may not be", w, i)
			}
		}
	}
}

// rising are rows each of which is less than the next one.
func rising() rows {
	return rows{
		{},
		{null()}, {null(), null()}, {null(), text("a")},
		{truth(0)}, {truth(0), null()}, {truth(0), truth(0), text("b")}, {truth(0), truth(1)}, {truth(1)},
		of(-2), of(-2, 9, 9), of(1), of(1, -1), of(1, 0), of(1, 0, 0), of(1, 5), of(2), of(2, -7), {whole(2), float(-7)}, of(10),
		{float(-1)}, {float(0), whole(7)}, {float(minus0), whole(8)}, {float(0), text("")}, {float(0.5)}, {float(infinity)},
		{float(math.NaN()), whole(1)}, {nans()[2], whole(2)}, {nans()[3], whole(3)}, {nans()[1], whole(3), null()},
		{text("")}, {text(""), text("")}, {text("a")}, {text("a"), text("z")}, {text("ab")}, {text("b")},
		times(199, text("c")), times(200, text("c")), append(times(200, text("c")), text("b")), times(201, text("c")), times(1000, text("c")),
	}
}

func wantCmp(t *testing.T, a, b list, need int) {
	t.Helper()
	if n := row.Cmp(a, b); n != need {
		t.Errorf("Cmp of %v and %v: %d, not %d", a, b, n, need)
	}
	if n := row.Cmp(b, a); n != -need {
		t.Errorf("Cmp of %v and %v: %d, not %d", b, a, n, -need)
	}
}

func TestCmp(t *testing.T) {
	l := rising()
	for i, b := range l {
		wantCmp(t, b, slices.Clone(b), 0)
		for _, a := range l[:i] {
			wantCmp(t, a, b, -1)
		}
	}
	wantCmp(t, nil, nil, 0)
	wantCmp(t, nil, list{}, 0)
	wantCmp(t, nil, list{null()}, -1)
}

func TestCmpOfOneValueIsThatOfValues(t *testing.T) {
	l := slices.Concat(rights(), wrongs(), nans(), list{float(minus0)})
	for _, a := range l {
		for _, b := range l {
			wantCmp(t, list{a}, list{b}, value.Cmp(a, b))
			wantCmp(t, list{whole(1), a, whole(2)}, list{whole(1), b, whole(1)}, cmpOr(value.Cmp(a, b), 1))
		}
	}
}

// cmpOr is the first that is not 0.
func cmpOr(a, b int) int {
	if a != 0 {
		return a
	}
	return b
}

func TestCmpFloats(t *testing.T) {
	wantCmp(t, list{whole(1), float(minus0)}, list{whole(1), float(0)}, 0)
	wantCmp(t, list{float(minus0), whole(1)}, list{float(0), whole(2)}, -1)
	for _, a := range nans() {
		for _, b := range nans() {
			wantCmp(t, list{a, whole(1)}, list{b, whole(1)}, 0)
			wantCmp(t, list{a}, list{b, null()}, -1)
		}
		wantCmp(t, list{a}, list{float(infinity), text("z")}, 1)
	}
}

func TestCmpOfWhatMayNotBe(t *testing.T) {
	for _, w := range wrongs() {
		wantCmp(t, list{w}, list{null()}, 0)
		wantCmp(t, list{w, whole(1)}, list{null(), whole(2)}, -1)
		wantCmp(t, list{whole(1), w}, list{whole(1)}, 1)
		wantCmp(t, list{w}, list{truth(0)}, -1)
	}
}

func wantBy(t *testing.T, order []api.Key, a, b list, need int) {
	t.Helper()
	if n := row.By(order, a, b); n != need {
		t.Errorf("By %v of %v and %v: %d, not %d", order, a, b, n, need)
	}
	if n := row.By(order, b, a); n != -need {
		t.Errorf("By %v of %v and %v: %d, not %d", order, b, a, n, -need)
	}
}

// up and down are keys of one place.
func up(place int) api.Key { return api.Key{Out: place} }

func down(place int) api.Key { return api.Key{Out: place, Desc: true} }

func keys(l ...api.Key) []api.Key { return l }

func TestByOfNoKeys(t *testing.T) {
	for _, order := range [][]api.Key{nil, {}} {
		for _, a := range rising() {
			for _, b := range rising() {
				wantBy(t, order, a, b, 0)
			}
		}
	}
}

func TestByOneKey(t *testing.T) {
	wantBy(t, keys(up(0)), of(1, 9), of(2, 3), -1)
	wantBy(t, keys(up(1)), of(1, 9), of(2, 3), 1)
	wantBy(t, keys(up(0)), of(1, 9), of(1, 3), 0)
	wantBy(t, keys(down(0)), of(1, 9), of(2, 3), 1)
	wantBy(t, keys(down(1)), of(1, 9), of(2, 3), -1)
	wantBy(t, keys(down(0)), of(1, 9), of(1, 3), 0)
	l := slices.Concat(rights(), wrongs(), nans(), list{float(minus0)})
	for _, a := range l {
		for _, b := range l {
			wantBy(t, keys(up(1)), list{text("b"), a}, list{text("a"), b, null()}, value.Cmp(a, b))
			wantBy(t, keys(down(1)), list{text("b"), a}, list{text("a"), b, null()}, -value.Cmp(a, b))
		}
	}
}

func TestBySeveralKeys(t *testing.T) {
	a, b, c := of(1, 2, 3), of(1, 5, 2), of(1, 2, 9)
	wantBy(t, keys(up(0), up(1)), a, b, -1)
	wantBy(t, keys(up(0), down(1)), a, b, 1)
	wantBy(t, keys(down(0), up(1)), a, b, -1)
	wantBy(t, keys(down(0), down(1)), a, b, 1)
	wantBy(t, keys(up(2), up(1)), a, b, 1)
	wantBy(t, keys(down(2), up(1)), a, b, -1)
	wantBy(t, keys(up(0), up(1)), a, c, 0)
	wantBy(t, keys(down(0), up(1), up(2)), a, c, -1)
	wantBy(t, keys(up(0), up(1), down(2)), a, c, 1)
	wantBy(t, keys(up(1), down(1)), a, b, -1)
	wantBy(t, keys(down(1), up(1)), a, b, 1)
}

func TestByAPlaceThatARowHasNot(t *testing.T) {
	for _, place := range []int{lowest, -1 << 32, -3, -1, 3, 200, 1 << 32, greatest} {
		wantBy(t, keys(up(place)), of(1, 2, 3), of(4, 5), 0)
		wantBy(t, keys(down(place)), nil, of(4, 5), 0)
		wantBy(t, keys(up(place), down(1)), of(1, 2, 3), of(4, 5), 1)
	}
	wantBy(t, keys(up(2)), of(1, 2), of(1, 2, lowest), -1)
	wantBy(t, keys(down(2)), of(1, 2), of(1, 2, lowest), 1)
	wantBy(t, keys(up(2)), of(1, 2), list{whole(1), whole(2), null()}, 0)
	wantBy(t, keys(up(0)), nil, list{truth(0)}, -1)
	wantBy(t, keys(up(0)), list{}, list{null()}, 0)
	wantBy(t, keys(up(0)), nil, nil, 0)
	wantBy(t, keys(up(999)), times(1000, whole(1)), times(999, whole(1)), 1)
}

func TestByDoesNotReadBehindARow(t *testing.T) {
	long := of(1, 2, 3)
	wantBy(t, keys(up(2)), long[:2], of(1, 2, lowest), -1)
	wantBy(t, keys(up(2)), long[:2], list{whole(1), whole(2), null()}, 0)
}

// P5.2

func TestSortExamples(t *testing.T) {
	wantRows(t, row.Sort(rows{of(2), of(1), of(2)}, keys(down(0))), rows{of(2), of(2), of(1)})
	l := rows{of(2, 1), of(1, 5), of(2, 0), of(3)}
	wantRows(t, row.Sort(l, keys(down(0))), rows{of(3), of(2, 1), of(2, 0), of(1, 5)})
	wantRows(t, row.Sort(l, keys(up(0))), rows{of(1, 5), of(2, 1), of(2, 0), of(3)})
	wantRows(t, row.Sort(l, keys(up(1))), rows{of(3), of(2, 0), of(2, 1), of(1, 5)})
	wantRows(t, row.Sort(l, keys(up(0), up(1))), rows{of(1, 5), of(2, 0), of(2, 1), of(3)})
	wantRows(t, row.Sort(l, keys(down(0), up(1))), rows{of(3), of(2, 0), of(2, 1), of(1, 5)})
}

func TestSortOfFewRows(t *testing.T) {
	for _, order := range [][]api.Key{nil, {}, keys(up(0)), keys(down(0), up(1)), keys(up(-1))} {
		wantRows(t, row.Sort(nil, order), nil)
		wantRows(t, row.Sort(rows{}, order), nil)
		wantRows(t, row.Sort(rows{nil}, order), rows{nil})
		wantRows(t, row.Sort(rows{of(4, 5)}, order), rows{of(4, 5)})
		wantRows(t, row.Sort(slices.Repeat(rows{of(4, 5)}, 50), order), slices.Repeat(rows{of(4, 5)}, 50))
	}
}

func TestSortLeavesWhatItDoesNotTellApart(t *testing.T) {
	l := rising()
	slices.Reverse(l)
	for _, order := range [][]api.Key{nil, {}, keys(up(-1)), keys(down(greatest), up(5000))} {
		wantRows(t, row.Sort(l, order), l)
	}
	// Long enough for a sorting that is not steady to show it; the second value tells where a row stood.
	var mixed rows
	for i := range int64(500) {
		mixed = append(mixed, of(i*7%3, i))
	}
	wantParted := func(order []api.Key, first ...int64) {
		t.Helper()
		var need rows
		for _, n := range first {
			for _, r := range mixed {
				if r[0].Int == n {
					need = append(need, r)
				}
			}
		}
		wantRows(t, row.Sort(mixed, order), need)
	}
	wantParted(keys(up(0)), 0, 1, 2)
	wantParted(keys(down(0)), 2, 1, 0)
	wantParted(keys(up(7), down(0), down(-1)), 2, 1, 0)
}

func TestSortOfTheSameInOtherForms(t *testing.T) {
	var l rows
	for i, v := range slices.Concat(nans(), list{float(0), float(minus0), float(0), float(minus0)}) {
		l = append(l, list{v, whole(int64(-i))})
	}
	numbers := len(nans())
	wantRows(t, row.Sort(l, keys(down(0))), l)
	wantRows(t, row.Sort(l, keys(up(0))), slices.Concat(l[numbers:], l[:numbers]))
	wantRows(t, row.Sort(l, keys(up(0), up(1)))[:4], rows{l[8], l[7], l[6], l[5]})
}

func TestSortOfWhatMayNotBe(t *testing.T) {
	l := rows{{truth(0)}}
	for _, w := range wrongs() {
		l = append(l, list{w}, list{null()}, nil)
	}
	wantRows(t, row.Sort(l, keys(down(0))), l)
	wantRows(t, row.Sort(l, keys(up(0))), slices.Concat(l[1:], l[:1]))
}

func TestSortMemory(t *testing.T) {
	all := rows{of(2, 20), of(1, 10, 99)[:2], {}, of(1, 10), of(7)}
	l, order := all[:4], keys(down(0), up(1), up(3))[:2]
	before := deep(all)
	s := row.Sort(l, order)
	need := rows{of(2, 20), of(1, 10), of(1, 10), {}}
	wantRows(t, s, need)
	wantRows(t, all, before)
	for i, r := range s {
		// Behind its end, too, a row is of nobody else.
		s[i] = append(r, text("x"))
		for j := range s[i] {
			s[i][j] = text("y")
		}
	}
	s = append(s, of(5))
	s[0] = nil
	wantRows(t, all, before)
	if all[1][:3][2] != whole(99) || all[4][0] != whole(7) {
		t.Error("the spare room of what was handed in is changed")
	}
	if !slices.Equal(order[:3], keys(down(0), up(1), up(3))) {
		t.Error("the order is changed")
	}
	wantRows(t, row.Sort(l, order), need)
}

func TestSortSharesNoRow(t *testing.T) {
	one := of(1, 2)
	s := row.Sort(rows{one, one, one}, keys(up(0)))
	s[0][0], s[1][1] = whole(8), whole(9)
	wantRows(t, s, rows{of(8, 2), of(1, 9), of(1, 2)})
	wantRows(t, rows{one}, rows{of(1, 2)})
}

func TestSorted(t *testing.T) {
	l := rows{of(2, 1), of(1, 5), of(2, 0), of(3)}
	for _, c := range []struct {
		l     rows
		order []api.Key
		need  bool
	}{
		{l, nil, true},
		{l, keys(up(-1), down(9)), true},
		{l, keys(up(0)), false},
		{l, keys(down(0)), false},
		{l, keys(up(1)), false},
		{l[1:], keys(up(0)), true},
		{l[1:], keys(down(0)), false},
		{l[1:], keys(down(1)), true},
		{l[1:], keys(up(0), up(1)), true},
		{l[:2], keys(down(0)), true},
		{rows{of(1, 2), of(1, 1)}, keys(up(0)), true},
		{rows{of(1, 2), of(1, 1)}, keys(down(0)), true},
		{rows{of(1, 2), of(1, 1)}, keys(up(0), up(1)), false},
		{rows{of(1, 2), of(1, 1)}, keys(up(0), down(1)), true},
		{rows{of(1), of(3), of(2)}, keys(up(0)), false},
		{rows{of(3), of(1), of(2)}, keys(up(0)), false},
		{rows{of(3), of(1), of(2)}, keys(down(0)), false},
		{rows{nil, of(1), {}}, keys(up(0)), false},
		{rows{nil, {}, {null()}, of(1)}, keys(up(0)), true},
		{rows{{float(0)}, {float(minus0)}, {float(0)}}, keys(up(0)), true},
		{rows{{float(0)}, {float(minus0)}, {float(0)}}, keys(down(0)), true},
		{rows{{nans()[0]}, {nans()[1]}, {nans()[2]}, {nans()[0]}}, keys(up(0)), true},
		{rows{{nans()[0]}, {float(infinity)}}, keys(up(0)), false},
		{rows{{wrongs()[0]}, {null()}, nil, {wrongs()[8]}}, keys(up(0)), true},
		{rows{{truth(0)}, {wrongs()[4]}}, keys(up(0)), false},
		{nil, keys(up(0)), true},
		{rows{}, keys(down(0)), true},
		{rows{of(1)}, keys(down(0)), true},
		{slices.Repeat(rows{of(1, 2)}, 30), keys(down(0), up(1)), true},
	} {
		if row.Sorted(c.l, c.order) != c.need {
			t.Errorf("Sorted of %v by %v is not %v", c.l, c.order, c.need)
		}
	}
}

func TestSortedAsksEachRow(t *testing.T) {
	for _, n := range []int64{2, 3, 10, 100} {
		for i := range n - 1 {
			var l rows
			for j := range n {
				l = append(l, of(j))
			}
			l[i], l[i+1] = l[i+1], l[i]
			if row.Sorted(l, keys(up(0))) {
				t.Errorf("%v is not sorted", l)
			}
		}
	}
}

// P5.3

// wantIn asks for Within, either way about, and for Bag.
func wantIn(t *testing.T, a, b rows, aInB, bInA bool) {
	t.Helper()
	if row.Within(a, b) != aInB {
		t.Errorf("Within of %v and %v is not %v", a, b, aInB)
	}
	if row.Within(b, a) != bInA {
		t.Errorf("Within of %v and %v is not %v", b, a, bInA)
	}
	if need := aInB && bInA; row.Bag(a, b) != need || row.Bag(b, a) != need {
		t.Errorf("Bag of %v and %v is not %v", a, b, need)
	}
}

func TestBagAndWithinExamples(t *testing.T) {
	wantIn(t, rows{of(1), of(1)}, rows{of(1)}, false, true)
	l := rows{of(2, 1), of(1, 5), of(2, 0), of(3)}
	wantIn(t, l, rows{of(3), of(1, 5), of(2, 0), of(2, 1)}, true, true)
	wantIn(t, l, l[1:], false, true)
}

func TestBagAndWithin(t *testing.T) {
	wantIn(t, nil, nil, true, true)
	wantIn(t, nil, rows{}, true, true)
	wantIn(t, nil, rows{nil}, true, false)
	wantIn(t, rows{}, rows{of(1)}, true, false)
	wantIn(t, rows{nil}, rows{{}}, true, true)
	wantIn(t, rows{nil}, rows{{null()}}, false, false)
	wantIn(t, rows{of(1)}, rows{of(1)}, true, true)
	wantIn(t, rows{of(1)}, rows{of(2)}, false, false)
	wantIn(t, rows{of(1)}, rows{of(1, 1)}, false, false)
	wantIn(t, rows{of(1, 2)}, rows{of(2, 1)}, false, false)
	wantIn(t, rows{of(1), of(2)}, rows{of(1, 2)}, false, false)
	wantIn(t, rows{of(1)}, rows{{float(1)}}, false, false)
	wantIn(t, rows{of(1)}, rows{{truth(1)}}, false, false)
	wantIn(t, rows{of(1), of(1), of(2)}, rows{of(1), of(2), of(2)}, false, false)
	wantIn(t, rows{of(1), of(2), of(1)}, rows{of(2), of(1), of(1)}, true, true)
	wantIn(t, rows{of(1), of(2), of(1)}, rows{of(3), of(2), of(1), of(0), of(1)}, true, false)
	wantIn(t, rows{of(1), of(3)}, rows{of(3), of(2), of(1)}, true, false)
	wantIn(t, rows{of(1), of(4)}, rows{of(3), of(2), of(1)}, false, false)
	wantIn(t, rows{of(0), of(3)}, rows{of(3), of(2), of(1)}, false, false)
	wantIn(t, slices.Repeat(rows{of(1)}, 100), slices.Repeat(rows{of(1)}, 100), true, true)
	wantIn(t, slices.Repeat(rows{of(1)}, 100), slices.Repeat(rows{of(1)}, 99), false, true)
}

func TestBagsOfTheSameInOtherForms(t *testing.T) {
	wantIn(t, rows{{float(0)}, {float(minus0)}}, rows{{float(minus0)}, {float(minus0)}}, true, true)
	wantIn(t, rows{{float(0)}, {float(minus0)}}, rows{{float(0)}}, false, true)
	wantIn(t, rows{{float(0)}, {float(minus0)}}, rows{{float(0)}, {float(1)}}, false, false)
	for _, a := range nans() {
		for _, b := range nans() {
			wantIn(t, rows{{a, whole(1)}, {float(1)}, {b, whole(2)}}, rows{{a, whole(2)}, {b, whole(1)}, {float(1)}}, true, true)
			wantIn(t, rows{{a}, {b}}, rows{{b}}, false, true)
		}
		wantIn(t, rows{{a}}, rows{{float(infinity)}}, false, false)
	}
}

func TestBagsOfWhatMayNotBe(t *testing.T) {
	for _, w := range wrongs() {
		wantIn(t, rows{{w}, of(1)}, rows{of(1), {null()}}, true, true)
		wantIn(t, rows{{w}, {w}}, rows{{null()}}, false, true)
		wantIn(t, rows{{w}}, rows{nil}, false, false)
		for _, v := range wrongs() {
			wantIn(t, rows{{w, v}}, rows{{v, w}}, true, true)
		}
	}
}

func TestBagAndWithinChangeNothing(t *testing.T) {
	a, b := rows{of(3), of(1), of(2), of(0)}, rows{of(2), of(3), of(1), of(-1)}
	beforeA, beforeB := deep(a), deep(b)
	wantIn(t, a[:3], b[:3], true, true)
	wantIn(t, a, b, false, false)
	wantRows(t, a, beforeA)
	wantRows(t, b, beforeB)
}

// P5.4

// wantPut asks for what is put, behind nothing and behind something.
func wantPut(t *testing.T, r list, need ...byte) {
	t.Helper()
	for _, ahead := range [][]byte{nil, {}, {7}, {200, 2, 0}} {
		if got := row.Put(ahead, r); !bytes.Equal(got, slices.Concat(ahead, need)) {
			t.Errorf("%v put behind %v: %v, not %v", r, ahead, got, need)
		}
	}
}

func TestPut(t *testing.T) {
	wantPut(t, nil, 0)
	wantPut(t, list{}, 0)
	wantPut(t, list{null()}, 1, 0)
	wantPut(t, of(1, -1), 2, 2, 2, 2, 1)
	wantPut(t, list{truth(1), text("ab"), null(), truth(0), whole(300)}, 5, 1, 1, 4, 2, 'a', 'b', 0, 1, 0, 2, 216, 4)
	wantPut(t, list{float(1), float(minus0)}, 2, 3, 0x3f, 0xf0, 0, 0, 0, 0, 0, 0, 3, 0, 0, 0, 0, 0, 0, 0, 0)
	for _, v := range nans() {
		wantPut(t, list{v, v}, 2, 3, 0x7f, 0xf8, 0, 0, 0, 0, 0, 1, 3, 0x7f, 0xf8, 0, 0, 0, 0, 0, 1)
	}
	for _, w := range wrongs() {
		wantPut(t, list{whole(1), w, truth(1)}, 3, 2, 2, 0, 1, 1)
	}
}

func TestPutOfManyValues(t *testing.T) {
	for _, n := range []int{127, 128, 200, 201, 300, 1000} {
		need := codec.PutUint(nil, uint64(n))
		for range n {
			need = append(need, 2, 6)
		}
		wantPut(t, times(n, whole(3)), need...)
	}
}

func TestPutMemory(t *testing.T) {
	room := []byte{1, 2, 3, 4, 5, 6, 7, 8}
	r := of(5, 6, 7)[:2]
	first := row.Put(room[:2], r)
	second := row.Put(room[:2], nil)
	need := []byte{1, 2, 2, 2, 10, 2, 12}
	if !bytes.Equal(room, []byte{1, 2, 3, 4, 5, 6, 7, 8}) || !bytes.Equal(first, need) {
		t.Errorf("what is handed in is changed: %v, or what is put: %v", room, first)
	}
	second[0] = 9
	if room[0] != 1 || first[0] != 1 || !alike(r[:3], of(5, 6, 7)) {
		t.Error("what is told shares memory")
	}
	one, two := append(first, 8), append(row.Put(room[:2], r), 9)
	if !bytes.Equal(one, append(slices.Clone(need), 8)) || !bytes.Equal(two, append(slices.Clone(need), 9)) || room[2] != 3 {
		t.Error("spare room is shared")
	}
}

func wantTake(t *testing.T, r *codec.Reader, need list, e api.Errno) {
	t.Helper()
	got, gotE := row.Take(r)
	if !alike(got, need) || gotE != e {
		t.Errorf("%v, error %d; not %v, error %d", got, gotE, need, e)
	}
}

func TestTake(t *testing.T) {
	wantTake(t, codec.Read([]byte{0}), nil, api.OK)
	wantTake(t, codec.Read([]byte{1, 0}), list{null()}, api.OK)
	wantTake(t, codec.Read([]byte{2, 2, 2, 2, 1}), of(1, -1), api.OK)
	wantTake(t, codec.Read([]byte{4, 1, 1, 4, 2, 'a', 'b', 0, 3, 0x3f, 0xf0, 0, 0, 0, 0, 0, 0}), list{truth(1), text("ab"), null(), float(1)}, api.OK)
}

func TestTakeOneBehindTheOther(t *testing.T) {
	r := codec.Read([]byte{1, 2, 2, 0, 2, 0, 1, 1, 99})
	wantTake(t, r, of(1), api.OK)
	wantTake(t, r, nil, api.OK)
	wantTake(t, r, list{null(), truth(1)}, api.OK)
	if r.Left() != 1 || r.Byte() != 99 {
		t.Error("what stands behind a row is not left")
	}
}

func TestTakeOfManyValues(t *testing.T) {
	for _, n := range []int{127, 128, 199, 200} {
		wantTake(t, codec.Read(row.Put(nil, times(n, text("ab")))), times(n, text("ab")), api.OK)
	}
	for _, n := range []int{201, 255, 256, 300, 456, 1000, 1 << 16} {
		wantTake(t, codec.Read(row.Put(nil, times(n, null()))), nil, api.ErrBig)
	}
}

func TestTakeOfABigNumberAlone(t *testing.T) {
	// Which is known of a number is told ahead of what is wrong behind it.
	for _, n := range []uint64{201, 328, 1 << 32, 1<<32 + 1, 1 << 63, 1<<64 - 1} {
		put := codec.PutUint(nil, n)
		wantTake(t, codec.Read(put), nil, api.ErrBig)
		wantTake(t, codec.Read(append(put, 9)), nil, api.ErrBig)
		wantTake(t, codec.Read(append(put, 1, 2)), nil, api.ErrBig)
	}
	wantTake(t, codec.Read(codec.PutUint(nil, 200)), nil, api.ErrShort)
}

func TestTakeOfBytesThatEnd(t *testing.T) {
	all := row.Put(nil, slices.Concat(rights(), times(179, whole(300))))
	for n := range all {
		wantTake(t, codec.Read(all[:n]), nil, api.ErrShort)
	}
	wantTake(t, codec.Read(nil), nil, api.ErrShort)
	wantTake(t, codec.Read([]byte{128}), nil, api.ErrShort)
	wantTake(t, codec.Read([]byte{1}), nil, api.ErrShort)
	wantTake(t, codec.Read([]byte{2, 2, 2}), nil, api.ErrShort)
	wantTake(t, codec.Read([]byte{2, 2, 2, 2}), nil, api.ErrShort)
}

func TestTakeOfOtherForms(t *testing.T) {
	forms := [][]byte{
		{128, 0}, {129, 0}, {200, 130, 0}, bytes.Repeat([]byte{255}, 10), // the number
		{1, 5}, {1, 255}, {1, 1, 2}, {1, 1, 255}, {1, 2, 128, 0}, // a value
		{1, 3, 128, 0, 0, 0, 0, 0, 0, 0}, {1, 3, 127, 248, 0, 0, 0, 0, 0, 0}, {1, 3, 255, 248, 0, 0, 0, 0, 0, 1},
		{3, 2, 2, 5, 0}, {2, 1, 2, 5}, {3, 0, 0, 7}, // one of several; those behind it are not there
	}
	for _, b := range forms {
		wantTake(t, codec.Read(b), nil, api.ErrForm)
	}
	wantTake(t, codec.Read(append([]byte{1, 4, 65}, strings.Repeat("a", 65)...)), nil, api.ErrBig)
	wantTake(t, codec.Read([]byte{2, 4, 65}), nil, api.ErrBig)
	wantTake(t, codec.Read([]byte{2, 0, 4, 2, 'a'}), nil, api.ErrShort)
	// The first that is refused ends it.
	wantTake(t, codec.Read([]byte{2, 5, 4, 65}), nil, api.ErrForm)
	wantTake(t, codec.Read([]byte{2, 4, 65, 5}), nil, api.ErrBig)
}

func TestTakeOfNoReader(t *testing.T) {
	wantTake(t, nil, nil, api.ErrNil)
	wantTake(t, &codec.Reader{}, nil, api.ErrNil)
	wantTake(t, new(codec.Reader), nil, api.ErrNil)
}

func TestTakeBehindARefusal(t *testing.T) {
	for e, b := range map[api.Errno][]byte{api.ErrForm: {128, 0, 1, 2, 2}, api.ErrBig: {9, 1, 2, 2}, api.ErrShort: {200}} {
		r := codec.Read(b)
		r.Uint(8)
		wantTake(t, r, nil, e)
		wantTake(t, r, nil, e)
	}
	r := codec.Read([]byte{2, 0, 4, 65, 0, 0})
	wantTake(t, r, nil, api.ErrBig)
	wantTake(t, r, nil, api.ErrBig)
	r = codec.Read([]byte{200, 2, 0, 0})
	wantTake(t, r, nil, api.ErrBig)
	wantTake(t, r, nil, api.ErrBig)
}

func TestTakeMemory(t *testing.T) {
	put := row.Put(nil, list{text("ab"), whole(1)})
	reader := codec.Read(put)
	first, _ := row.Take(reader)
	second, _ := row.Take(codec.Read(put))
	clear(put)
	first[1] = whole(9)
	if !alike(second, list{text("ab"), whole(1)}) || first[0].Text != "ab" {
		t.Error("what is told shares memory")
	}
}
