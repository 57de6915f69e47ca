package node_test

import (
	"bytes"
	"slices"
	"strings"
	"testing"

	"tabulary/api"
	"tabulary/node"
)

// greatest is the greatest Kid, and the greatest number of a page.
const greatest = 2147483647

// leaf is a leaf with these Keys, each of them with its Val behind it.
func leaf(cells ...string) node.Node {
	n := node.Node{Leaf: true}
	for i := 0; i < len(cells); i += 2 {
		n.Keys = append(n.Keys, cells[i])
		n.Vals = append(n.Vals, []byte(cells[i+1]))
	}
	return n
}

// inner is an inner node with these Kids; the Keys are those behind the first one.
func inner(kids []int, keys ...string) node.Node {
	return node.Node{Keys: append([]string{""}, keys...), Kids: kids}
}

// kidsOf are so many Kids.
func kidsOf(n int) []int {
	l := make([]int, n)
	for i := range l {
		l[i] = i * 1000003 % greatest
	}
	return l
}

// keyOf is a key of so many bytes, greater than all such keys of lesser places.
func keyOf(place, size int) string {
	return (string([]byte{byte(place + 1)}) + strings.Repeat("k", 50))[:size]
}

// sizedLeaf is a leaf whose cells take so many bytes: each from 5 to 93, the first one from 4.
func sizedLeaf(sizes ...int) node.Node {
	n := node.Node{Leaf: true}
	for i, size := range sizes {
		val := min(49, max(size-5, 0))
		n.Keys = append(n.Keys, keyOf(i, size-4-val))
		n.Vals = append(n.Vals, bytes.Repeat([]byte{byte(i + 200)}, val))
	}
	return n
}

// sizedInner is an inner node whose cells behind the first one, which takes 7, take so many bytes: each from 8 to 47.
func sizedInner(sizes ...int) node.Node {
	n := inner(kidsOf(1 + len(sizes)))
	for i, size := range sizes {
		n.Keys = append(n.Keys, keyOf(i, size-7))
	}
	return n
}

// rights are nodes that may be; many of them stand at an edge.
func rights() []node.Node {
	l := []node.Node{
		leaf(),
		leaf("", ""),
		leaf("a", "xy"),
		leaf("a", "xy", "c", ""),
		leaf("", "x", "\x00", "", "\x00\x00", "\x00"),
		leaf("\x7f", "", "\x80", "\x80\xff", "\xff", "", "\xff\x00", "\xff", "\xff\xff", ""),
		leaf("a", "a", "ab", "ab", "abc", "abc", "b", "b"),
		leaf(keyOf(0, 40), strings.Repeat("v", 49)),
		leaf(keyOf(0, 39), "v", keyOf(0, 40), strings.Repeat("v", 49), keyOf(1, 40), strings.Repeat("w", 48)),
		inner([]int{0}),
		inner([]int{greatest}),
		inner([]int{7, 7}, "g"),
		inner([]int{4, 5, 6}, "g", "m"),
		inner([]int{0, greatest, 1}, "\x00", "\x00\x00"),
		inner([]int{0x01020304, 255, 256, 65536}, "\x7f", "\x80", "\xff"),
		inner([]int{9, 8}, keyOf(0, 40)),
		inner([]int{greatest, greatest - 1, 0}, keyOf(0, 39), keyOf(0, 40)),
		sizedLeaf(93, 93, 58),             // 244
		sizedLeaf(93, 93, 59),             // 245
		sizedLeaf(93, 93, 93),             // more than a page has room for
		sizedInner(47, 47, 47, 47, 47),    // 242
		sizedInner(47, 47, 47, 47, 41, 8), // 244
		sizedInner(47, 47, 47, 47, 41, 9), // 245
		{Leaf: true, Keys: []string{}, Vals: [][]byte{}, Kids: []int{}},
		{Leaf: true, Keys: []string{"k"}, Vals: [][]byte{{}}, Kids: []int{}},
		{Leaf: true, Keys: []string{"k", "l"}, Vals: [][]byte{nil, {0}}},
		{Keys: []string{"", "k"}, Kids: []int{1, 2}, Vals: [][]byte{}},
	}
	for n := 1; n <= 12; n++ {
		l = append(l, sizedLeaf(slices.Repeat([]int{5 + n}, n)...), sizedInner(slices.Repeat([]int{8 + n}, n)...))
	}
	return append(l, many(true, 48), many(true, 49), many(false, 30), many(false, 31), many(true, 200), many(false, 200))
}

// many is a node of so many small cells.
func many(isLeaf bool, count int) node.Node {
	if isLeaf {
		return sizedLeaf(slices.Repeat([]int{5}, count)...)
	}
	return sizedInner(slices.Repeat([]int{8}, count-1)...)
}

// wrongs are nodes that may not be.
func wrongs() map[string]node.Node {
	x, y := []byte("x"), []byte("y")
	return map[string]node.Node{
		"an inner one without cells":                {},
		"an inner one with empty lists":             {Keys: []string{}, Vals: [][]byte{}, Kids: []int{}},
		"a leaf with a Kid":                         {Leaf: true, Keys: []string{"a"}, Vals: [][]byte{x}, Kids: []int{1}},
		"a leaf without cells, with a Kid":          {Leaf: true, Kids: []int{0}},
		"a leaf with Kids in the place of Vals":     {Leaf: true, Keys: []string{"a"}, Kids: []int{1}},
		"a leaf with a Val more":                    {Leaf: true, Keys: []string{"a"}, Vals: [][]byte{x, y}},
		"a leaf with a Val, and without Keys":       {Leaf: true, Vals: [][]byte{nil}},
		"a leaf with a Val less":                    {Leaf: true, Keys: []string{"a", "b"}, Vals: [][]byte{x}},
		"a leaf without Vals":                       {Leaf: true, Keys: []string{"a"}},
		"a leaf with two Keys that are the same":    leaf("a", "x", "a", "y"),
		"a leaf with two empty Keys":                leaf("", "x", "", "y"),
		"a leaf with Keys that fall":                leaf("b", "", "a", ""),
		"a leaf with Keys that fall to the empty":   leaf("a", "", "", ""),
		"a leaf with Keys that fall in length":      leaf("ab", "", "a", ""),
		"a leaf with Keys that fall from 128":       leaf("\x80", "", "\x7f", ""),
		"a leaf with Keys that fall in the midst":   leaf("a", "", "b", "", "b", "", "c", ""),
		"a leaf with Keys that fall at the end":     leaf("a", "", "b", "", "c", "", "bb", ""),
		"a leaf with a Key of 41 bytes":             leaf(keyOf(0, 41), ""),
		"a leaf with a last Key of 41 bytes":        leaf("", "", keyOf(0, 40), "", keyOf(1, 41), ""),
		"a leaf with a Key of 296 bytes":            leaf(strings.Repeat("k", 296), ""),
		"a leaf with a Val of 50 bytes":             leaf("a", strings.Repeat("v", 50)),
		"a leaf with a last Val of 50 bytes":        leaf("a", "", "b", strings.Repeat("v", 50)),
		"a leaf with a Val of 305 bytes":            leaf("a", strings.Repeat("v", 305), "b", ""),
		"an inner one with a Val":                   {Keys: []string{""}, Vals: [][]byte{x}, Kids: []int{1}},
		"an inner one with an empty Val":            {Keys: []string{""}, Vals: [][]byte{nil}, Kids: []int{1}},
		"an inner one with Vals, without Kids":      {Keys: []string{""}, Vals: [][]byte{x}},
		"an inner one with Vals for all":            {Keys: []string{"", "a"}, Vals: [][]byte{x, y}, Kids: []int{1, 2}},
		"an inner one with a Kid more":              inner([]int{1, 2, 3}, "a"),
		"an inner one with a Kid less":              inner([]int{1}, "a"),
		"an inner one without Kids":                 inner(nil),
		"an inner one with a Kid, without Keys":     {Kids: []int{1}},
		"an inner one whose first Key is not empty": {Keys: []string{"a"}, Kids: []int{1}},
		"one whose first Key is a byte 0":           {Keys: []string{"\x00", "a"}, Kids: []int{1, 2}},
		"an inner one with two empty Keys":          inner([]int{1, 2}, ""),
		"an inner one with a Key twice":             inner([]int{1, 2, 3}, "a", "a"),
		"an inner one with Keys that fall":          inner([]int{1, 2, 3}, "b", "a"),
		"an inner one with Keys that fall from 128": inner([]int{1, 2, 3}, "\x80", "\x7f"),
		"an inner one with Keys that fall short":    inner([]int{1, 2, 3}, "ab", "a"),
		"an inner one with a Key of 41 bytes":       inner([]int{1, 2}, keyOf(0, 41)),
		"an inner one with a last Key of 41 bytes":  inner([]int{1, 2, 3}, "\x01", keyOf(1, 41)),
		"an inner one with a Kid of -1":             inner([]int{-1}),
		"an inner one with a last Kid of -1":        inner([]int{1, -1}, "a"),
		"an inner one with a Kid of 2147483648":     inner([]int{greatest + 1}),
		"an inner one with a last such Kid":         inner([]int{0, 1, greatest + 1}, "a", "b"),
		"an inner one with a Kid of 4294967296":     inner([]int{1 << 32}),
		"an inner one with a Kid of 4294967303":     inner([]int{1<<32 + 7, 1}, "a"),
		"an inner one with the least Kid":           inner([]int{-1 << 63}),
		"an inner one with the greatest Int":        inner([]int{1<<63 - 1}),
	}
}

// lessByWords compares byte by byte.
func lessByWords(a, b string) bool {
	for i := range min(len(a), len(b)) {
		if a[i] != b[i] {
			return a[i] < b[i]
		}
	}
	return len(a) < len(b)
}

// rightByWords asks the chapter's words one behind the other.
func rightByWords(n node.Node) bool {
	for i, k := range n.Keys {
		if len(k) > 40 || i > 0 && !lessByWords(n.Keys[i-1], k) {
			return false
		}
	}
	for _, v := range n.Vals {
		if len(v) > 49 {
			return false
		}
	}
	for _, kid := range n.Kids {
		if kid < 0 || kid > greatest {
			return false
		}
	}
	if n.Leaf {
		return len(n.Vals) == len(n.Keys) && len(n.Kids) == 0
	}
	return len(n.Keys) > 0 && len(n.Kids) == len(n.Keys) && len(n.Vals) == 0 && n.Keys[0] == ""
}

// four is a number in four bytes, the highest first.
func four(n int) string { return string([]byte{byte(n >> 24), byte(n >> 16), byte(n >> 8), byte(n)}) }

// text is a Text of less than 128 bytes.
func text(s string) string { return string([]byte{byte(len(s))}) + s }

// cellsByWords are a node's cells.
func cellsByWords(n node.Node) []string {
	var l []string
	for i, k := range n.Keys {
		if n.Leaf {
			l = append(l, text(k)+text(string(n.Vals[i])))
		} else {
			l = append(l, text(k)+four(n.Kids[i]))
		}
	}
	return l
}

// takenByWords is how many bytes a node takes.
func takenByWords(n node.Node) int {
	taken := 0
	if rightByWords(n) {
		for _, c := range cellsByWords(n) {
			taken += 2 + len(c)
		}
	}
	return taken
}

// aPage is chapter 9's words, byte by byte: a page that is not sealed.
func aPage(no int, kind byte, cells ...string) []byte {
	b := append([]byte(four(no)), kind, byte(len(cells)))
	var ends, all []byte
	for _, c := range cells {
		all = append(all, c...)
		ends = append(ends, byte(len(all)>>8), byte(len(all)))
	}
	b = append(b, byte(len(all)>>8), byte(len(all)))
	b = append(append(b, ends...), all...)
	return append(b, make([]byte, 256-len(b))...)
}

// pageByWords is a node's page.
func pageByWords(no int, n node.Node) []byte {
	if n.Leaf {
		return aPage(no, 5, cellsByWords(n)...)
	}
	return aPage(no, 6, cellsByWords(n)...)
}

// cellsOfPage are a page's kind and cells; false: it is no page. Its last four bytes do not count.
func cellsOfPage(p []byte) (byte, []string, bool) {
	if len(p) != 256 || p[0] > 127 || p[4] == 0 {
		return 0, nil, false
	}
	count, total := int(p[5]), int(p[6])*256+int(p[7])
	if 2*count+total > 244 {
		return 0, nil, false
	}
	var cells []string
	begin, all := 0, p[8+2*count:252]
	for i := range count {
		end := int(p[8+2*i])*256 + int(p[9+2*i])
		if end < begin || end > total {
			return 0, nil, false
		}
		cells = append(cells, string(all[begin:end]))
		begin = end
	}
	return p[4], cells, begin == total && len(bytes.Trim(all[total:], "\x00")) == 0
}

// cutText reads a Text of at most so many bytes, less than 128, and tells what stands behind it.
func cutText(s string, most int) (string, string, bool) {
	if s == "" || int(s[0]) > most || int(s[0]) > len(s)-1 {
		return "", "", false
	}
	return s[1 : 1+s[0]], s[1+s[0]:], true
}

// parseByWords is the node that a page is; false: it is none.
func parseByWords(p []byte) (node.Node, bool) {
	kind, cells, ok := cellsOfPage(p)
	if !ok || kind != 5 && kind != 6 {
		return node.Node{}, false
	}
	n := node.Node{Leaf: kind == 5}
	for _, c := range cells {
		key, left, ok := cutText(c, 40)
		n.Keys = append(n.Keys, key)
		switch {
		case !ok:
			return node.Node{}, false
		case n.Leaf:
			val, left, ok := cutText(left, 49)
			if !ok || left != "" {
				return node.Node{}, false
			}
			n.Vals = append(n.Vals, []byte(val))
		case len(left) != 4:
			return node.Node{}, false
		default:
			n.Kids = append(n.Kids, int(left[0])<<24|int(left[1])<<16|int(left[2])<<8|int(left[3]))
		}
	}
	return n, rightByWords(n)
}

// findByWords goes through the Keys one by one.
func findByWords(n node.Node, key string) (int, bool) {
	switch {
	case !rightByWords(n):
		return 0, false
	case n.Leaf:
		i := 0
		for i < len(n.Keys) && lessByWords(n.Keys[i], key) {
			i++
		}
		return i, i < len(n.Keys) && n.Keys[i] == key
	}
	last := 0
	for i, k := range n.Keys {
		if !lessByWords(key, k) {
			last = i
		}
	}
	return last, n.Keys[last] == key
}

// orForm is a node that may be, or ErrForm.
func orForm(n node.Node) (node.Node, api.Errno) {
	if !rightByWords(n) {
		return node.Node{}, api.ErrForm
	}
	return n, api.OK
}

func insertByWords(n node.Node, i int, key string, val []byte, kid int) (node.Node, api.Errno) {
	switch {
	case !rightByWords(n):
		return node.Node{}, api.ErrForm
	case i < 0 || i > len(n.Keys):
		return node.Node{}, api.ErrNone
	}
	out := deep(n)
	out.Keys = slices.Insert(out.Keys, i, key)
	if n.Leaf {
		out.Vals = slices.Insert(out.Vals, i, val)
	} else {
		out.Kids = slices.Insert(out.Kids, i, kid)
	}
	return orForm(out)
}

func removeByWords(n node.Node, i int) (node.Node, api.Errno) {
	switch {
	case !rightByWords(n):
		return node.Node{}, api.ErrForm
	case i < 0 || i >= len(n.Keys):
		return node.Node{}, api.ErrNone
	}
	out := deep(n)
	out.Keys = slices.Delete(out.Keys, i, i+1)
	if n.Leaf {
		out.Vals = slices.Delete(out.Vals, i, i+1)
	} else {
		out.Kids = slices.Delete(out.Kids, i, i+1)
		for k := range out.Keys {
			if k == 0 {
				out.Keys[k] = ""
			}
		}
	}
	return orForm(out)
}

// cutsByWords are, for each place, how unlike the bytes of both sides are; of the place 0 and the last one, too.
func cutsByWords(n node.Node) []int {
	cells := cellsByWords(n)
	var l []int
	for at := range len(cells) + 1 {
		unlike := 0
		for i, c := range cells {
			if i < at {
				unlike += 2 + len(c)
			} else {
				unlike -= 2 + len(c)
			}
		}
		l = append(l, max(unlike, -unlike))
	}
	return l
}

func cutByWords(n node.Node) (node.Node, node.Node, api.Errno) {
	switch {
	case !rightByWords(n):
		return node.Node{}, node.Node{}, api.ErrForm
	case len(n.Keys) < 2:
		return node.Node{}, node.Node{}, api.ErrNone
	}
	unlike := cutsByWords(n)
	at := slices.Index(unlike, slices.Min(unlike))
	a, b := deep(n), deep(n)
	a.Keys, b.Keys = a.Keys[:at], b.Keys[at:]
	if n.Leaf {
		a.Vals, b.Vals = a.Vals[:at], b.Vals[at:]
	} else {
		a.Kids, b.Kids = a.Kids[:at], b.Kids[at:]
		b.Keys[0] = ""
	}
	return a, b, api.OK
}

func joinByWords(a node.Node, key string, b node.Node) (node.Node, api.Errno) {
	if !rightByWords(a) || !rightByWords(b) || a.Leaf != b.Leaf {
		return node.Node{}, api.ErrForm
	}
	out, behind := deep(a), deep(b)
	if !b.Leaf {
		behind.Keys[0] = key
	}
	out.Keys = append(out.Keys, behind.Keys...)
	out.Vals = append(out.Vals, behind.Vals...)
	out.Kids = append(out.Kids, behind.Kids...)
	return orForm(out)
}

// deep is a copy of a node with all its lists.
func deep(n node.Node) node.Node {
	c := node.Node{Leaf: n.Leaf, Keys: slices.Clone(n.Keys), Kids: slices.Clone(n.Kids)}
	for _, v := range n.Vals {
		c.Vals = append(c.Vals, slices.Clone(v))
	}
	return c
}

// same tells whether two nodes are; a list without an element may be nil or empty.
func same(a, b node.Node) bool {
	return a.Leaf == b.Leaf && slices.Equal(a.Keys, b.Keys) && slices.EqualFunc(a.Vals, b.Vals, bytes.Equal) && slices.Equal(a.Kids, b.Kids)
}

// An answer is what a call tells.
type answer struct {
	a, b node.Node
	page []byte
	i    int
	ok   bool
	e    api.Errno
}

func (x answer) deep() answer {
	x.a, x.b, x.page = deep(x.a), deep(x.b), slices.Clone(x.page)
	return x
}

func (x answer) same(y answer) bool {
	return same(x.a, y.a) && same(x.b, y.b) && bytes.Equal(x.page, y.page) && x.i == y.i && x.ok == y.ok && x.e == y.e
}

// What stands in the spare room of what is handed in.
const (
	spareKey  = "spare"
	spareKid  = 1234567
	spareByte = 238
)

// guarded is a node like n, each of whose lists has spare room with something in it.
func guarded(n node.Node) node.Node {
	g := node.Node{Leaf: n.Leaf}
	g.Keys = append(slices.Clone(n.Keys), spareKey, spareKey, spareKey)[:len(n.Keys)]
	g.Kids = append(slices.Clone(n.Kids), spareKid, spareKid, spareKid)[:len(n.Kids)]
	for _, v := range n.Vals {
		g.Vals = append(g.Vals, append(slices.Clone(v), spareByte, spareByte, spareByte)[:len(v)])
	}
	g.Vals = append(g.Vals, []byte(spareKey), []byte(spareKey))[:len(n.Vals)]
	return g
}

// withRoom is a copy of nodes with all that lies in their lists' memory.
func withRoom(l []node.Node) []node.Node {
	var c []node.Node
	for _, n := range l {
		full := node.Node{Leaf: n.Leaf, Keys: slices.Clone(n.Keys[:cap(n.Keys)]), Kids: slices.Clone(n.Kids[:cap(n.Kids)])}
		for _, v := range n.Vals[:cap(n.Vals)] {
			full.Vals = append(full.Vals, slices.Clone(v[:cap(v)]))
		}
		c = append(c, full)
	}
	return c
}

// leaks tells whether what is told has, in its spare room, what was handed in there.
func leaks(n node.Node) bool {
	for _, v := range n.Vals {
		if slices.Contains(v[len(v):cap(v)], spareByte) {
			return true
		}
	}
	isSpare := func(v []byte) bool { return string(v) == spareKey }
	return slices.Contains(n.Keys[len(n.Keys):cap(n.Keys)], spareKey) || slices.Contains(n.Kids[len(n.Kids):cap(n.Kids)], spareKid) || slices.ContainsFunc(n.Vals[len(n.Vals):cap(n.Vals)], isSpare)
}

// spoil overwrites all lists of nodes, their spare room too, each one with something else; it tells whether each one then has that, so that no two share memory.
func spoil(l ...node.Node) bool {
	var bodies [][]byte
	for i, n := range l {
		for k := range n.Keys[:cap(n.Keys)] {
			n.Keys[:cap(n.Keys)][k] = string([]byte{'!', byte(i)})
		}
		for k := range n.Kids[:cap(n.Kids)] {
			n.Kids[:cap(n.Kids)][k] = -9 - i
		}
		for _, v := range n.Vals {
			bodies = append(bodies, v[:cap(v)])
		}
		for k := range n.Vals[:cap(n.Vals)] {
			n.Vals[:cap(n.Vals)][k] = []byte{'!', byte(i)}
		}
	}
	for i, b := range bodies {
		copy(b, bytes.Repeat([]byte{byte(i)}, len(b)))
	}
	own := true
	for i, b := range bodies {
		own = own && bytes.Count(b, []byte{byte(i)}) == len(b)
	}
	for i, n := range l {
		for _, k := range n.Keys[:cap(n.Keys)] {
			own = own && k == string([]byte{'!', byte(i)})
		}
		for _, kid := range n.Kids[:cap(n.Kids)] {
			own = own && kid == -9-i
		}
		for _, v := range n.Vals[:cap(n.Vals)] {
			own = own && string(v) == string([]byte{'!', byte(i)})
		}
	}
	return own
}

// spoil overwrites all that was told.
func (x answer) spoil() bool {
	return spoil(x.a, x.b, node.Node{Vals: [][]byte{x.page}})
}

// ask tells what a call answers, and asks of it what is to be true of every call: that what is handed in stays as it is, its spare room too, and is not kept; that what is told is memory of its own; and that the same is told once more.
func ask(t *testing.T, call func(l []node.Node) answer, l ...node.Node) answer {
	t.Helper()
	told := call(l).deep()
	var in []node.Node
	for _, n := range l {
		in = append(in, guarded(n))
	}
	before := withRoom(in)
	first, second := call(in), call(in)
	if !first.same(told) || !second.same(told) {
		t.Fatalf("%#v, and then %#v and %#v, of\n%#v", told, first, second, l)
	}
	if leaks(first.a) || leaks(first.b) {
		t.Fatalf("spare room that was handed in is handed out: %#v", first)
	}
	if !first.spoil() {
		t.Fatalf("two lists that are told share memory: %#v", told)
	}
	if !slices.EqualFunc(withRoom(in), before, same) {
		t.Fatalf("what was handed in is changed, or told:\n%#v, not\n%#v", withRoom(in), before)
	}
	if third := call(in); !third.same(told) || !second.same(told) {
		t.Fatalf("%#v, and then %#v: what was told is kept", told, third)
	}
	spoil(in...)
	if !second.same(told) {
		t.Fatalf("%#v, and then %#v: what was handed in is told", told, second)
	}
	return told
}

// bare is bytes handed in as the Val of a node, so that they are guarded, too.
func bare(b []byte) node.Node { return node.Node{Vals: [][]byte{b}} }

// The calls, each of which is held against the chapter's words, and tells what was told.

func wantSize(t *testing.T, n node.Node) {
	t.Helper()
	right, taken := rightByWords(n), takenByWords(n)
	x := ask(t, func(l []node.Node) answer { return answer{ok: node.Right(l[0]), i: node.Taken(l[0])} }, n)
	if x.ok != right || x.i != taken {
		t.Fatalf("Right %#v, Taken %d; not %#v and %d, of\n%#v", x.ok, x.i, right, taken, n)
	}
	x = ask(t, func(l []node.Node) answer { return answer{ok: node.Fits(l[0])} }, n)
	if x.ok != (right && taken <= 244) {
		t.Fatalf("Fits: %#v, of %d bytes, Right %#v, of\n%#v", x.ok, taken, right, n)
	}
}

// wantBytes tells the page, too.
func wantBytes(t *testing.T, no int, n node.Node) ([]byte, api.Errno) {
	t.Helper()
	var need answer
	switch {
	case !rightByWords(n):
		need.e = api.ErrForm
	case takenByWords(n) > 244:
		need.e = api.ErrRoom
	case no < 0 || no > greatest:
		need.e = api.ErrInvalid
	default:
		need.page = pageByWords(no, n)
	}
	x := ask(t, func(l []node.Node) answer {
		p, e := node.Bytes(no, l[0])
		return answer{page: p, e: e}
	}, n)
	if !x.same(need) {
		t.Fatalf("Bytes(%d, %#v): %#v, error %d; not %#v, %d", no, n, x.page, x.e, need.page, need.e)
	}
	return x.page, x.e
}

func wantParse(t *testing.T, p []byte) (node.Node, api.Errno) {
	t.Helper()
	var need answer
	n, ok := parseByWords(p)
	if ok {
		need.a = n
	} else {
		need.e = api.ErrForm
	}
	x := ask(t, func(l []node.Node) answer {
		n, e := node.Parse(l[0].Vals[0])
		return answer{a: n, e: e}
	}, bare(p))
	if !x.same(need) {
		t.Fatalf("Parse(%#v): %#v, error %d; not %#v, %d", p, x.a, x.e, need.a, need.e)
	}
	return x.a, x.e
}

func wantFind(t *testing.T, n node.Node, key string) (int, bool) {
	t.Helper()
	i, ok := findByWords(n, key)
	x := ask(t, func(l []node.Node) answer {
		i, ok := node.Find(l[0], key)
		return answer{i: i, ok: ok}
	}, n)
	if x.i != i || x.ok != ok {
		t.Fatalf("Find(%#v, %q): %d and %#v, not %d and %#v", n, key, x.i, x.ok, i, ok)
	}
	return x.i, x.ok
}

func wantInsert(t *testing.T, n node.Node, i int, key string, val []byte, kid int) (node.Node, api.Errno) {
	t.Helper()
	need, e := insertByWords(n, i, key, val, kid)
	x := ask(t, func(l []node.Node) answer {
		n, e := node.Insert(l[0], i, key, l[1].Vals[0], kid)
		return answer{a: n, e: e}
	}, n, bare(val))
	if !x.same(answer{a: need, e: e}) {
		t.Fatalf("Insert(%#v, %d, %q, %#v, %d): %#v, error %d; not %#v, %d", n, i, key, val, kid, x.a, x.e, need, e)
	}
	return x.a, x.e
}

func wantRemove(t *testing.T, n node.Node, i int) (node.Node, api.Errno) {
	t.Helper()
	need, e := removeByWords(n, i)
	x := ask(t, func(l []node.Node) answer {
		n, e := node.Remove(l[0], i)
		return answer{a: n, e: e}
	}, n)
	if !x.same(answer{a: need, e: e}) {
		t.Fatalf("Remove(%#v, %d): %#v, error %d; not %#v, %d", n, i, x.a, x.e, need, e)
	}
	return x.a, x.e
}

func wantCut(t *testing.T, n node.Node) (node.Node, node.Node, api.Errno) {
	t.Helper()
	a, b, e := cutByWords(n)
	x := ask(t, func(l []node.Node) answer {
		a, b, e := node.Cut(l[0])
		return answer{a: a, b: b, e: e}
	}, n)
	if !x.same(answer{a: a, b: b, e: e}) {
		t.Fatalf("Cut(%#v): %#v and %#v, error %d; not %#v and %#v, %d", n, x.a, x.b, x.e, a, b, e)
	}
	return x.a, x.b, x.e
}

func wantJoin(t *testing.T, a node.Node, key string, b node.Node) (node.Node, api.Errno) {
	t.Helper()
	need, e := joinByWords(a, key, b)
	x := ask(t, func(l []node.Node) answer {
		n, e := node.Join(l[0], key, l[1])
		return answer{a: n, e: e}
	}, a, b)
	if !x.same(answer{a: need, e: e}) {
		t.Fatalf("Join(%#v, %q, %#v): %#v, error %d; not %#v, %d", a, key, b, x.a, x.e, need, e)
	}
	return x.a, x.e
}
