package schema_test

import (
	"bytes"
	"math"
	"slices"
	"strings"
	"testing"

	"tabulary/api"
	"tabulary/codec"
	"tabulary/schema"
	"tabulary/value"
)

const (
	lowest   = math.MinInt64
	greatest = math.MaxInt64
)

// longest is a name of as many bytes as there may be, with each kind of them.
const longest = "abcdefghijk_mnop0189"

// Columns of each kind; they are short for what the calls take.
func truths(name string) api.Column { return api.Column{Name: name, Kind: api.Bool} }

func wholes(name string) api.Column { return api.Column{Name: name, Kind: api.Int} }

func floats(name string) api.Column { return api.Column{Name: name, Kind: api.Float} }

func texts(name string) api.Column { return api.Column{Name: name, Kind: api.Text} }

func table(name string, cols ...api.Column) api.Table { return api.Table{Name: name, Cols: cols} }

// example is the chapter's: t: a Int, b Text.
func example() api.Table { return table("t", wholes("a"), texts("b")) }

// each has a column of each kind.
func each() api.Table {
	return table("each", truths("yes"), wholes("n"), floats("f"), texts("s"))
}

// wide has so many columns, no two with one name.
func wide(n int) api.Table {
	t := table("wide")
	for i := range n {
		name := "c"
		for ; i > 0; i /= 26 {
			name += string(rune('a' + i%26))
		}
		t.Cols = append(t.Cols, wholes(name))
	}
	return t
}

// rights are tables that may be, no two the same.
func rights() []api.Table {
	return []api.Table{
		example(), each(), wide(1), wide(7), wide(8), table("t", wholes("t")), table("_", texts("_")), table("a0", floats("_9")),
		table(longest, wholes(longest)), table("t", texts("b"), wholes("a")), table("t", truths("a"), truths("aa"), truths("b")),
		table("t", truths("a"), truths("aa"), truths("ab")), table("t", truths("aa"), truths("ab"), truths("a")),
	}
}

// kinds are those that no column has.
func kinds() []int {
	return []int{api.Null, -1, 5, 6, -2, 255, 256, 258, -254, 1 << 32, 1<<32 + 2, lowest, lowest + 2, greatest}
}

// names are texts that are none.
func names() []string {
	return []string{
		"", "A", "aB", "Z_", "9", "9a", "0_", " ", " a", "a ", "a b", "a-b", "a.b", "a\x00", "\x00", "`", "a`", "{", "z{", "^", "a/", "a:", "a@",
		"\x7f", "\x80", "a\x80", "\xe1", "a\xff", "ü", "aü", "a\u0131", "ａ", "a\n", longest + "a", longest + longest, strings.Repeat("_", 21),
		strings.Repeat("a", 256+3), strings.Repeat("a", 1<<12+1),
	}
}

// wrongs are tables that may not be, none for two columns of one name.
func wrongs() []api.Table {
	l := []api.Table{{}, {Name: "t"}, {Name: "t", Cols: []api.Column{}}, wide(9), wide(10), wide(256 + 3), wide(1000)}
	for _, s := range names() {
		l = append(l, table(s, wholes("a")), table("t", texts(s)), table("t", wholes("a"), texts(s), wholes("b")), table("t", wholes("a"), texts(s)), table(s))
	}
	for _, kind := range kinds() {
		c := api.Column{Name: "c", Kind: kind}
		l = append(l, table("t", c), table("t", c, wholes("a")), table("t", wholes("a"), c), table("t", wholes("a"), c, wholes("b")))
	}
	return l
}

// twices are tables in which two columns have one name, and nothing else is wrong.
func twices() []api.Table {
	l := []api.Table{
		table("t", wholes("a"), wholes("a")), table("t", wholes("a"), texts("a")), table("t", wholes(longest), texts("b"), texts(longest)),
		table("t", wholes("a"), wholes("b"), wholes("b")), table("t", wholes("a"), wholes("a"), wholes("a")), table("t", wholes("_"), wholes("b"), wholes("_"), wholes("b")),
	}
	for j := range api.MaxCols {
		for i := range j {
			t := wide(api.MaxCols)
			t.Cols[j].Name = t.Cols[i].Name
			l = append(l, t)
		}
	}
	return l
}

// tables are all of them.
func tables() []api.Table { return slices.Concat(rights(), wrongs(), twices()) }

// alike tells whether two tables are so, part by part.
func alike(a, b api.Table) bool {
	if a.Name != b.Name || len(a.Cols) != len(b.Cols) {
		return false
	}
	for i, c := range a.Cols {
		if c.Name != b.Cols[i].Name || c.Kind != b.Cols[i].Kind {
			return false
		}
	}
	return true
}

func wantTable(t *testing.T, got, need api.Table) {
	t.Helper()
	if !alike(got, need) {
		t.Fatalf("%v, not %v", got, need)
	}
}

// deep is a copy of a table.
func deep(t api.Table) api.Table { return api.Table{Name: t.Name, Cols: slices.Clone(t.Cols)} }

// P6.1

func wantName(t *testing.T, s string, need bool) {
	t.Helper()
	if schema.Name(s) != need {
		t.Errorf("Name(%q) is not %v", s, need)
	}
}

func TestName(t *testing.T) {
	for _, s := range []string{"a", "z", "_", "m", "a0", "a9", "_9", "__", "az", "za", "t1_2", longest, strings.Repeat("z", 20), strings.Repeat("_", 19), "_" + strings.Repeat("9", 19)} {
		wantName(t, s, true)
	}
	for _, s := range names() {
		wantName(t, s, false)
	}
}

// Each byte is asked about alone, and in each place of the longest name.
func TestNameOfEachByte(t *testing.T) {
	const letters, digits = "abcdefghijklmnopqrstuvwxyz_", "0123456789"
	for c := range 256 {
		one := string([]byte{byte(c)})
		letter, digit := strings.Contains(letters, one), strings.Contains(digits, one)
		wantName(t, one, letter)
		for i := range longest {
			wantName(t, longest[:i]+one+longest[i+1:], letter || digit && i > 0)
		}
		wantName(t, "a"+one, letter || digit)
		wantName(t, one+"a", letter)
		wantName(t, longest+one, false)
	}
}

func TestNameOfEachLength(t *testing.T) {
	for n := range 600 {
		for _, c := range []string{"a", "_", "z"} {
			wantName(t, strings.Repeat(c, n), n >= 1 && n <= 20)
		}
		wantName(t, "a"+strings.Repeat("0", n), n <= 19)
	}
	wantName(t, strings.Repeat("ü", 10), false) // 20 bytes
	wantName(t, "a"+strings.Repeat("é", 4), false)
}

func wantRight(t *testing.T, table api.Table, e api.Errno) {
	t.Helper()
	if got := schema.Right(table); got != e {
		t.Errorf("Right of %v: %d, not %d", table, got, e)
	}
}

func TestRight(t *testing.T) {
	wantRight(t, example(), api.OK)
	wantRight(t, table("t", wholes("a"), texts("a")), api.ErrThere)
	wantRight(t, table("t"), api.ErrInvalid)
	for _, r := range rights() {
		wantRight(t, r, api.OK)
	}
	for _, w := range wrongs() {
		wantRight(t, w, api.ErrInvalid)
	}
	for _, w := range twices() {
		wantRight(t, w, api.ErrThere)
	}
}

func TestRightOfEachNumberOfColumns(t *testing.T) {
	for n := range 300 {
		e := api.OK
		if n == 0 || n > api.MaxCols {
			e = api.ErrInvalid
		}
		wantRight(t, wide(n), e)
	}
}

func TestRightOfEachKind(t *testing.T) {
	for kind := -300; kind <= 300; kind++ {
		e := api.ErrInvalid
		if kind == api.Bool || kind == api.Int || kind == api.Float || kind == api.Text {
			e = api.OK
		}
		for i := range 3 {
			w := wide(3)
			w.Cols[i].Kind = kind
			wantRight(t, w, e)
		}
	}
}

// What is wrong with one column is told wherever it stands.
func TestRightOfEachColumn(t *testing.T) {
	for i := range api.MaxCols {
		w := wide(api.MaxCols)
		w.Cols[i].Name = "9"
		wantRight(t, w, api.ErrInvalid)
		w = wide(api.MaxCols)
		w.Cols[i].Kind = api.Null
		wantRight(t, w, api.ErrInvalid)
	}
}

// The name of a table may be that of one of its columns.
func TestRightOfATablesNameInAColumn(t *testing.T) {
	wantRight(t, table("a", wholes("a"), wholes("b")), api.OK)
	wantRight(t, table("b", wholes("a"), wholes("b")), api.OK)
}

func TestRightTellsInvalidFirst(t *testing.T) {
	for _, w := range twices() {
		for _, s := range names() {
			wantRight(t, table(s, w.Cols...), api.ErrInvalid)
			wantRight(t, table("t", append(slices.Clone(w.Cols[:min(len(w.Cols), 7)]), wholes(s))...), api.ErrInvalid)
		}
		for _, kind := range kinds() {
			for i := range w.Cols {
				both := deep(w)
				both.Cols[i].Kind = kind
				wantRight(t, both, api.ErrInvalid)
			}
		}
		wantRight(t, table("t", append(slices.Clone(w.Cols), wide(8).Cols...)...), api.ErrInvalid)
	}
	wantRight(t, table("t", wholes("a"), wholes("a"), wholes("")), api.ErrInvalid)
	wantRight(t, table("t", wholes(""), wholes("")), api.ErrInvalid)
	wantRight(t, table("t", wholes("A"), wholes("A")), api.ErrInvalid)
	wantRight(t, table("t", slices.Repeat([]api.Column{wholes("a")}, 8)...), api.ErrThere)
	wantRight(t, table("t", slices.Repeat([]api.Column{wholes("a")}, 9)...), api.ErrInvalid)
}

func TestRightReadsNothingBehindTheColumns(t *testing.T) {
	cols := []api.Column{wholes("a"), wholes("b"), wholes("a"), {}}
	wantRight(t, table("t", cols[:2]...), api.OK)
	wantRight(t, table("t", wide(9).Cols[:8]...), api.OK)
	wantRight(t, table("t", cols[:0]...), api.ErrInvalid)
}

// P6.2

func wantColumn(t *testing.T, table api.Table, name string, need int) {
	t.Helper()
	if n := schema.Column(table, name); n != need {
		t.Errorf("Column(%v, %q): %d, not %d", table, name, n, need)
	}
}

func TestColumn(t *testing.T) {
	wantColumn(t, example(), "a", 0)
	wantColumn(t, example(), "b", 1)
	for _, name := range append(names(), "c", "t", "aa", "ab", "_a") {
		wantColumn(t, example(), name, -1)
	}
	for i, c := range wide(8).Cols {
		wantColumn(t, wide(8), c.Name, i)
		wantColumn(t, wide(i), c.Name, -1)
	}
	wantColumn(t, table("t", wholes(longest), wholes(longest[:19])), longest[:19], 1)
	wantColumn(t, table("t", wholes(longest), wholes(longest[:19])), longest[1:], -1)
}

func TestColumnOfTwo(t *testing.T) {
	wantColumn(t, table("t", wholes("a"), texts("a")), "a", 0)
	wantColumn(t, table("t", wholes("a"), texts("b"), wholes("b")), "b", 1)
	wantColumn(t, table("t", wholes("a"), texts("b"), floats("c"), wholes("b"), wholes("a")), "b", 1)
	wantColumn(t, table("t", slices.Repeat([]api.Column{wholes("a")}, 9)...), "a", 0)
}

// A column is looked for by its name, also in a table that may not be.
func TestColumnOfWhatMayNotBe(t *testing.T) {
	for _, name := range append(names(), "a") {
		wantColumn(t, api.Table{}, name, -1)
		wantColumn(t, table(name), name, -1)
		wantColumn(t, table("t", wholes("b"), api.Column{Name: name, Kind: -1}, wholes(name)), name, 1)
		wantColumn(t, table("T", wholes(name+"a"), wholes(name)), name, 1)
	}
	for i, c := range wide(300).Cols {
		wantColumn(t, wide(300), c.Name, i)
	}
	wantColumn(t, table("t", wholes("a"), wholes("")), "", 1)
	wantColumn(t, table("t", wholes("a"), wholes("A")), "A", 1)
	cols := []api.Column{wholes("a"), wholes("b")}
	wantColumn(t, table("t", cols[:1]...), "b", -1)
}

func null() api.Value { return api.Value{} }

func truth(n int64) api.Value { return api.Value{Kind: api.Bool, Int: n} }

func whole(n int64) api.Value { return api.Value{Kind: api.Int, Int: n} }

func float(f float64) api.Value { return api.Value{Kind: api.Float, Float: f} }

func text(s string) api.Value { return api.Value{Kind: api.Text, Text: s} }

// ofKind are values that may be, and are of a kind.
func ofKind(kind int) []api.Value {
	switch kind {
	case api.Bool:
		return []api.Value{truth(0), truth(1)}
	case api.Int:
		return []api.Value{whole(lowest), whole(-1), whole(0), whole(1), whole(greatest)}
	case api.Float:
		return []api.Value{float(0), float(math.Copysign(0, -1)), float(0.5), float(math.Inf(-1)), float(math.NaN()), float(math.Float64frombits(1<<64 - 1))}
	case api.Text:
		return []api.Value{text(""), text("a"), text("\x00\xff"), text(strings.Repeat("a", 64))}
	}
	return []api.Value{null()}
}

// notOfKind are values of a kind that may not be.
func notOfKind(kind int) []api.Value {
	var l []api.Value
	for _, v := range []api.Value{{Int: 1, Float: 1}, {Int: 1, Text: "a"}, {Float: 1, Text: "a"}, {Int: 2}, {Int: -1}, {Float: math.NaN()}, {Text: strings.Repeat("a", 65)}} {
		v.Kind = kind
		if !value.Right(v) {
			l = append(l, v)
		}
	}
	return l
}

func wantFits(t *testing.T, table api.Table, need bool, r ...api.Value) {
	t.Helper()
	if schema.Fits(table, r) != need {
		t.Errorf("Fits(%v, %v) is not %v", table, r, need)
	}
}

func TestFits(t *testing.T) {
	wantFits(t, example(), true, whole(1), text("x"))
	wantFits(t, example(), true, whole(1), null())
	wantFits(t, example(), true, null(), text("x"))
	wantFits(t, example(), true, null(), null())
	wantFits(t, example(), false, text("x"), whole(1))
	wantFits(t, example(), false, whole(1), whole(1))
	wantFits(t, example(), false, text("x"), text("x"))
	wantFits(t, example(), false, truth(1), text("x"))
	wantFits(t, example(), false, float(1), text("x"))
	wantFits(t, each(), true, truth(1), whole(2), float(3), text("4"))
	wantFits(t, each(), true, null(), null(), null(), null())
}

func TestFitsOfEachKind(t *testing.T) {
	for kind := api.Bool; kind <= api.Text; kind++ {
		one := table("t", api.Column{Name: "a", Kind: kind})
		for other := api.Null; other <= api.Text; other++ {
			for _, v := range ofKind(other) {
				wantFits(t, one, other == kind || other == api.Null, v)
				wantFits(t, table("t", wholes("a"), one.Cols[0], texts("b")), other == kind || other == api.Null, whole(1), v, text("x"))
			}
			for _, v := range notOfKind(other) {
				wantFits(t, one, false, v)
				wantFits(t, table("t", wholes("a"), one.Cols[0], texts("b")), false, whole(1), v, text("x"))
			}
		}
		for _, other := range []int{-1, 5, 256, 256 + kind, kind - 256, lowest, greatest} {
			wantFits(t, one, false, api.Value{Kind: other})
		}
	}
}

func TestFitsOfEachNumberOfValues(t *testing.T) {
	for cols := range 12 {
		for n := range 12 {
			wantFits(t, wide(cols), n == cols, slices.Repeat([]api.Value{whole(1)}, n)...)
			wantFits(t, wide(cols), n == cols, slices.Repeat([]api.Value{null()}, n)...)
		}
	}
	if schema.Fits(example(), nil) || schema.Fits(example(), []api.Value{}) {
		t.Error("no values fit two columns")
	}
}

func TestFitsAsksEachValue(t *testing.T) {
	for i := range 8 {
		r := slices.Repeat([]api.Value{whole(1)}, 8)
		r[i] = text("")
		wantFits(t, wide(8), false, r...)
		r[i] = api.Value{Kind: api.Int, Text: "a"}
		wantFits(t, wide(8), false, r...)
		r[i] = null()
		wantFits(t, wide(8), true, r...)
	}
}

// A table that may not be is asked about by its columns, as one that may be.
func TestFitsOfATableThatMayNotBe(t *testing.T) {
	if !schema.Fits(api.Table{}, nil) || !schema.Fits(table("T"), []api.Value{}) {
		t.Error("no values fit no columns")
	}
	wantFits(t, api.Table{}, false, null())
	wantFits(t, table("", wholes("")), true, whole(1))
	wantFits(t, table("", wholes("")), false, text("x"))
	wantFits(t, table("t", wholes("a"), texts("a")), true, whole(1), text("x"))
	wantFits(t, wide(9), true, slices.Repeat([]api.Value{whole(1)}, 9)...)
	wantFits(t, wide(201), true, slices.Repeat([]api.Value{whole(1)}, 201)...)
	for _, kind := range kinds() {
		one := table("t", api.Column{Name: "a", Kind: kind})
		wantFits(t, one, true, null())
		wantFits(t, one, false, whole(1))
		wantFits(t, one, false, api.Value{Kind: kind, Int: 1})
		wantFits(t, one, kind == api.Null, api.Value{Kind: kind})
	}
}

func TestFitsReadsNothingBehindARow(t *testing.T) {
	r := []api.Value{whole(1), text("x"), text("y")}
	wantFits(t, example(), true, r[:2]...)
	wantFits(t, example(), false, r[:1]...)
	wantFits(t, table("t", example().Cols[:1]...), true, r[:1]...)
	wantFits(t, table("t", example().Cols[:1]...), false, r[:2]...)
}

// P6.3

// wantPut asks for what is put, behind nothing and behind something.
func wantPut(t *testing.T, table api.Table, need string) {
	t.Helper()
	for _, ahead := range []string{"", "\x07", "\xc8\x02\x00 and more"} {
		if got := schema.Put([]byte(ahead), table); string(got) != ahead+need {
			t.Errorf("%v put behind %q: %q, not %q", table, ahead, got, need)
		}
	}
	if got := schema.Put(nil, table); string(got) != need {
		t.Errorf("%v put behind nil: %q, not %q", table, got, need)
	}
}

func TestPut(t *testing.T) {
	wantPut(t, example(), "\x01t\x02\x01a\x02\x01b\x04")
	wantPut(t, each(), "\x04each\x04\x03yes\x01\x01n\x02\x01f\x03\x01s\x04")
	wantPut(t, table(longest, wholes(longest)), "\x14"+longest+"\x01\x14"+longest+"\x02")
	wantPut(t, wide(8), "\x04wide\x08\x01c\x02\x02cb\x02\x02cc\x02\x02cd\x02\x02ce\x02\x02cf\x02\x02cg\x02\x02ch\x02")
}

func TestPutOfWhatMayNotBe(t *testing.T) {
	wantPut(t, api.Table{}, "\x00\x00")
	wantPut(t, table("t"), "\x01t\x00")
	wantPut(t, api.Table{Name: "t", Cols: []api.Column{}}, "\x01t\x00")
	wantPut(t, table("", api.Column{}), "\x00\x01\x00\x00")
	wantPut(t, table("A\xff", texts("ü"), texts("ü")), "\x02A\xff\x02\x02ü\x04\x02ü\x04")
	long := strings.Repeat("x", 300)
	wantPut(t, table(long, wholes(long)), "\xac\x02"+long+"\x01\xac\x02"+long+"\x02")
	wantPut(t, table("t", slices.Repeat([]api.Column{wholes("a")}, 300)...), "\x01t\xac\x02"+strings.Repeat("\x01a\x02", 300))
	for _, kind := range kinds() {
		wantPut(t, table("t", api.Column{Name: "a", Kind: kind}), "\x01t\x01\x01a"+string([]byte{byte(kind & 255)}))
	}
}

func TestPutMemory(t *testing.T) {
	const all, need = "ab and much room for what is put behind it", "ab\x01t\x02\x01a\x02\x01b\x04"
	room := []byte(all)
	cols := append(example().Cols, floats("spare"))
	handed := table("t", cols[:2]...)
	first, second := schema.Put(room[:2], handed), schema.Put(room[:2], handed)
	if string(room) != all || !slices.Equal(cols, append(example().Cols, floats("spare"))) {
		t.Fatalf("what is handed in is changed: %q, %v", room, cols)
	}
	clear(room)
	cols[0].Name = "changed"
	whole := first[:cap(first)]
	for i := range whole {
		whole[i] = 'x'
	}
	if string(second) != need || !bytes.Equal(room, make([]byte, len(all))) {
		t.Fatalf("what is told shares memory: %q, %q", second, room)
	}
	one, two := append(second, 1), append(schema.Put([]byte("ab"), example()), 2)
	if string(one) != need+"\x01" || string(two) != need+"\x02" {
		t.Fatal("spare room is shared")
	}
}

func TestPutOfATableWithRoomBehindIt(t *testing.T) {
	wantPut(t, table("t", each().Cols[:1]...), "\x01t\x01\x03yes\x01")
	wantPut(t, table("t", each().Cols[:0]...), "\x01t\x00")
}

// wantTake takes a table of a Reader that is handed in.
func wantTake(t *testing.T, r *codec.Reader, need api.Table, e api.Errno) {
	t.Helper()
	got, gotE := schema.Take(r)
	if !alike(got, need) || gotE != e {
		t.Fatalf("%v, error %d; not %v, error %d", got, gotE, need, e)
	}
}

// wantTaken takes a table that is there, with what stands behind it left.
func wantTaken(t *testing.T, b string, need api.Table) {
	t.Helper()
	r := codec.Read([]byte(b + "\x01t"))
	wantTake(t, r, need, api.OK)
	if r.Left() != 2 || r.Err() != api.OK || r.Text(1) != "t" {
		t.Fatalf("of what stands behind %q: Left %d, Err %d", b, r.Left(), r.Err())
	}
	r = codec.Read([]byte(b))
	wantTake(t, r, need, api.OK)
	if r.End() != api.OK {
		t.Fatalf("End behind %q: %d", b, r.End())
	}
}

// wantUnread takes what the Reader refuses, and goes on to.
func wantUnread(t *testing.T, b string, e api.Errno) {
	t.Helper()
	r := codec.Read([]byte(b))
	for range 2 {
		wantTake(t, r, api.Table{}, e)
		if r.Left() != 0 || r.Err() != e || r.End() != e {
			t.Fatalf("of %q: Left %d, Err %d, End %d; not %d", b, r.Left(), r.Err(), r.End(), e)
		}
	}
}

// wantNotRight takes what Right refuses: the Reader itself has refused nothing, and stands behind it.
func wantNotRight(t *testing.T, b string, e api.Errno) {
	t.Helper()
	const next = "\x01t\x01\x01a\x02"
	r := codec.Read([]byte(b + next))
	wantTake(t, r, api.Table{}, e)
	if r.Left() != len(next) || r.Err() != api.OK {
		t.Fatalf("of %q: Left %d, Err %d", b, r.Left(), r.Err())
	}
	wantTake(t, r, table("t", wholes("a")), api.OK)
}

func TestTake(t *testing.T) {
	wantTaken(t, "\x01t\x02\x01a\x02\x01b\x04", example())
	wantTaken(t, "\x04each\x04\x03yes\x01\x01n\x02\x01f\x03\x01s\x04", each())
	wantTaken(t, "\x14"+longest+"\x01\x14"+longest+"\x02", table(longest, wholes(longest)))
	wantTaken(t, "\x04wide\x08\x01c\x02\x02cb\x02\x02cc\x02\x02cd\x02\x02ce\x02\x02cf\x02\x02cg\x02\x02ch\x02", wide(8))
}

func TestTakeOneBehindTheOther(t *testing.T) {
	var b []byte
	for _, r := range rights() {
		b = schema.Put(b, r)
	}
	reader := codec.Read(b)
	for _, r := range rights() {
		wantTake(t, reader, r, api.OK)
	}
	if reader.End() != api.OK {
		t.Fatalf("End: %d", reader.End())
	}
	wantTake(t, reader, api.Table{}, api.ErrShort)
}

func TestTakeOfBytesThatEnd(t *testing.T) {
	wantUnread(t, "", api.ErrShort)
	for _, r := range rights() {
		b := string(schema.Put(nil, r))
		for n := range b {
			wantUnread(t, b[:n], api.ErrShort)
		}
	}
	wantUnread(t, "\x80", api.ErrShort)               // within the number of a Text
	wantUnread(t, "\x03ab", api.ErrShort)             // within a Text
	wantUnread(t, "\x01t", api.ErrShort)              // ahead of the number
	wantUnread(t, "\x01t\x82", api.ErrShort)          // within it
	wantUnread(t, "\x01t\x01", api.ErrShort)          // ahead of a column
	wantUnread(t, "\x01t\x01\x01a", api.ErrShort)     // ahead of its Kind
	wantUnread(t, "\x01t\x02\x01a\x02", api.ErrShort) // between columns
}

func TestTakeOfTooMuch(t *testing.T) {
	wantUnread(t, "\x15"+longest+"a\x01\x01a\x02", api.ErrBig)
	wantUnread(t, "\x15", api.ErrBig)
	wantUnread(t, "\xff\xff\xff\xff\xff\xff\xff\xff\xff\x01", api.ErrBig)
	wantUnread(t, "\x01t\x01\x15"+longest+"a\x02", api.ErrBig)
	wantUnread(t, "\x01t\x02\x01a\x02\x15", api.ErrBig)
	for _, n := range []int{9, 10, 127, 128, 256, 256 + 3, 300} {
		wantUnread(t, string(schema.Put(nil, wide(n))), api.ErrBig)
	}
	for _, n := range []uint64{9, 255, 256, 1 << 32, 1<<32 + 1, 1 << 63, 1<<64 - 1} {
		wantUnread(t, string(codec.PutUint([]byte("\x01t"), n)), api.ErrBig)
		wantUnread(t, string(codec.PutUint([]byte("\x01t"), n))+"\x01a\x02", api.ErrBig)
	}
}

func TestTakeOfOtherForms(t *testing.T) {
	wantUnread(t, "\x81\x00t\x01\x01a\x02", api.ErrForm)
	wantUnread(t, "\x01t\x81\x00\x01a\x02", api.ErrForm)
	wantUnread(t, "\x01t\x80\x00", api.ErrForm)
	wantUnread(t, "\x01t\x01\x81\x00a\x02", api.ErrForm)
	wantUnread(t, "\x01t\x02\x01a\x02\x81\x00b\x02", api.ErrForm)
	wantUnread(t, "\xff\xff\xff\xff\xff\xff\xff\xff\xff\x02", api.ErrForm)
}

// What the Reader refuses first is told, ahead of what it would have refused behind it.
func TestTakeTellsTheFirstRefusal(t *testing.T) {
	wantUnread(t, "\x15\x81\x00", api.ErrBig)
	wantUnread(t, "\x81\x00\x15", api.ErrForm)
	wantUnread(t, "\x01t\x09\x81\x00", api.ErrBig)
	wantUnread(t, "\x01t\x02\x81\x00a\x02\x15", api.ErrForm)
	wantUnread(t, "\x01t\x02\x15\x81\x00", api.ErrBig)
}

// What the Reader refuses is told ahead of what is wrong with the table so far.
func TestTakeTellsTheReadersRefusalAheadOfRights(t *testing.T) {
	for _, begin := range []string{"\x01T", "\x00", "\x019", "\x01\xff"} {
		wantUnread(t, begin, api.ErrShort)
		wantUnread(t, begin+"\x09", api.ErrBig)
		wantUnread(t, begin+"\x81\x00", api.ErrForm)
		wantUnread(t, begin+"\x01\x01a", api.ErrShort)
	}
	for _, begin := range []string{"\x01t\x03\x01A\x02", "\x01t\x03\x00\x02", "\x01t\x03\x01a\x00", "\x01t\x03\x01a\x09", "\x01t\x03\x01a\x02\x01a\x02"} {
		wantUnread(t, begin, api.ErrShort)
		wantUnread(t, begin+"\x02b", api.ErrShort)
		wantUnread(t, begin+"\x01b", api.ErrShort)
		wantUnread(t, begin+"\x15", api.ErrBig)
		wantUnread(t, begin+"\x81\x00b\x02", api.ErrForm)
	}
}

func TestTakeOfWhatIsNotRight(t *testing.T) {
	wantNotRight(t, "\x01t\x00", api.ErrInvalid)
	wantNotRight(t, "\x00\x00", api.ErrInvalid)
	wantNotRight(t, "\x00\x01\x01a\x02", api.ErrInvalid)
	wantNotRight(t, "\x01t\x01\x00\x02", api.ErrInvalid)
	wantNotRight(t, "\x01t\x02\x01a\x02\x01a\x04", api.ErrThere)
	wantNotRight(t, "\x01t\x03\x01a\x02\x01b\x04\x01a\x02", api.ErrThere)
	wantNotRight(t, "\x01t\x03\x01a\x02\x01a\x02\x01b\x00", api.ErrInvalid)
	wantNotRight(t, "\x01T\x02\x01a\x02\x01a\x02", api.ErrInvalid)
	for _, w := range twices() {
		wantNotRight(t, string(schema.Put(nil, w)), api.ErrThere)
	}
	for _, s := range names() {
		if len(s) <= 20 {
			wantNotRight(t, string(schema.Put(nil, table(s, wholes("a")))), api.ErrInvalid)
			wantNotRight(t, string(schema.Put(nil, table("t", wholes("a"), wholes(s)))), api.ErrInvalid)
		}
	}
}

func TestTakeOfEachKind(t *testing.T) {
	for kind := range 256 {
		b := "\x01t\x02\x01a" + string([]byte{byte(kind)}) + "\x01b\x04"
		if kind >= 1 && kind <= 4 {
			wantTaken(t, b, table("t", api.Column{Name: "a", Kind: kind}, texts("b")))
		} else {
			wantNotRight(t, b, api.ErrInvalid)
		}
	}
}

func TestTakeOfNoReader(t *testing.T) {
	wantTake(t, nil, api.Table{}, api.ErrNil)
	wantTake(t, &codec.Reader{}, api.Table{}, api.ErrNil)
	wantTake(t, new(codec.Reader), api.Table{}, api.ErrNil)
	wantTake(t, codec.Read(nil), api.Table{}, api.ErrShort)
}

func TestTakeBehindARefusal(t *testing.T) {
	const whole = "\x01t\x01\x01a\x02"
	for e, b := range map[api.Errno]string{api.ErrForm: "\x80\x00" + whole, api.ErrBig: "\x09" + whole, api.ErrShort: "\xc8"} {
		r := codec.Read([]byte(b))
		r.Uint(8)
		wantTake(t, r, api.Table{}, e)
		wantTake(t, r, api.Table{}, e)
	}
}

func TestTakeMemory(t *testing.T) {
	b := schema.Put(nil, example())
	before := bytes.Clone(b)
	reader := codec.Read(append(bytes.Clone(b), b...))
	first, _ := schema.Take(reader)
	second, _ := schema.Take(reader)
	third, _ := schema.Take(codec.Read(b))
	if !bytes.Equal(b, before) {
		t.Fatal("what is handed in is changed")
	}
	clear(b)
	first.Cols[0].Name = "changed"
	_ = append(first.Cols, texts("x"))
	_ = append(second.Cols, texts("y"))
	wantTable(t, second, example())
	wantTable(t, third, example())
	if spare := first.Cols[:cap(first.Cols)]; len(spare) > 2 && spare[2].Name != "x" {
		t.Fatal("spare room is shared")
	}
}

// wantSame asks either way about.
func wantSame(t *testing.T, a, b api.Table, need bool) {
	t.Helper()
	if schema.Same(a, b) != need || schema.Same(b, a) != need {
		t.Errorf("Same of %v and %v is not %v", a, b, need)
	}
}

func TestSame(t *testing.T) {
	l := rights()
	for i, a := range l {
		for j, b := range l {
			wantSame(t, a, deep(b), i == j)
		}
	}
	wantSame(t, example(), table("u", example().Cols...), false)
	wantSame(t, example(), table("t", texts("b"), wholes("a")), false)
	wantSame(t, example(), table("t", wholes("b"), texts("a")), false)
	wantSame(t, example(), table("t", texts("a"), wholes("b")), false)
	wantSame(t, example(), table("t", wholes("a")), false)
	wantSame(t, example(), table("t", wholes("a"), texts("b"), texts("c")), false)
	wantSame(t, wide(7), wide(8), false)
}

// Each column's parts are asked about, in each place.
func TestSameButForOnePart(t *testing.T) {
	for i := range 8 {
		other := wide(8)
		other.Cols[i].Name += "x"
		wantSame(t, wide(8), other, false)
		other = wide(8)
		other.Cols[i].Kind = api.Text
		wantSame(t, wide(8), other, false)
		other = wide(8)
		other.Cols = slices.Delete(other.Cols, i, i+1)
		wantSame(t, wide(8), other, false)
		for j := range i {
			other = wide(8)
			other.Cols[i], other.Cols[j] = other.Cols[j], other.Cols[i]
			wantSame(t, wide(8), other, false)
		}
	}
}

// Tables that may not be are held against each other by their parts, too.
func TestSameOfWhatMayNotBe(t *testing.T) {
	l := slices.Concat(wrongs(), twices())
	for _, a := range l {
		wantSame(t, a, deep(a), true)
		wantSame(t, a, table(a.Name, append(slices.Clone(a.Cols), wholes("more"))...), false)
		wantSame(t, a, table(a.Name+"x", a.Cols...), false)
		for _, b := range l {
			wantSame(t, a, b, alike(a, b))
		}
	}
	wantSame(t, api.Table{}, table(""), true)
	wantSame(t, api.Table{}, api.Table{Cols: []api.Column{}}, true)
	wantSame(t, table("t", api.Column{Name: "a", Kind: 258}), table("t", wholes("a")), false)
	wantSame(t, table("t", api.Column{Name: "a", Kind: 1<<32 + 2}), table("t", wholes("a")), false)
	wantSame(t, table("ta", wholes("b")), table("t", wholes("ab")), false)
}

func TestSameReadsNothingBehindTheColumns(t *testing.T) {
	a, b := each().Cols, each().Cols
	b[3].Name = "other"
	wantSame(t, table("t", a[:3]...), table("t", b[:3]...), true)
	wantSame(t, table("t", a[:3]...), table("t", a...), false)
}

// No call changes what it is handed.
func TestWhatIsHandedInStays(t *testing.T) {
	for _, handed := range tables() {
		spare := append(slices.Clone(handed.Cols), floats("spare"))
		one := api.Table{Name: handed.Name, Cols: spare[:len(handed.Cols)]}
		r := append(slices.Repeat([]api.Value{whole(1)}, len(handed.Cols)), text("spare"))
		schema.Name(one.Name)
		schema.Right(one)
		schema.Column(one, "spare")
		schema.Fits(one, r[:len(handed.Cols)])
		schema.Put(nil, one)
		schema.Same(one, one)
		wantTable(t, one, handed)
		if spare[len(handed.Cols)] != floats("spare") || r[len(handed.Cols)] != text("spare") {
			t.Fatal("spare room is changed")
		}
		if slices.ContainsFunc(r[:len(handed.Cols)], func(v api.Value) bool { return v != whole(1) }) {
			t.Fatal("a row is changed")
		}
	}
}
