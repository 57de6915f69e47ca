package node_test

import (
	"math"
	"slices"
	"strings"
	"testing"

	"tabulary/api"
	"tabulary/node"
)

// asked are keys that are asked of a node: each of its own, and those just ahead of it and behind it.
func asked(n node.Node) []string {
	l := []string{"", "\x00", "a", "g", "m", "z", "\x7f", "\x80", "\xff", strings.Repeat("k", 41), strings.Repeat("\xff", 300)}
	for _, k := range n.Keys {
		l = append(l, k, k+"\x00", k+"\xff")
		if k != "" {
			last := k[len(k)-1]
			l = append(l, k[:len(k)-1], k[:len(k)-1]+string([]byte{last - 1}), k[:len(k)-1]+string([]byte{last - 1, 255}), k[:len(k)-1]+string([]byte{last + 1}))
		}
	}
	return l
}

// P14.3

func TestFind(t *testing.T) {
	n := leaf("a", "1", "c", "2", "c\x00", "3", "\x80", "4")
	for key, at := range map[string]int{"": 0, "a": 0, "a\x00": 1, "b": 1, "bzz": 1, "c": 1, "c\x00": 2, "c\x00\x00": 3, "d": 3, "\x7f\xff": 3, "\x80": 3, "\x80\x00": 4, "\xff": 4} {
		if i, ok := wantFind(t, n, key); i != at || ok != slices.Contains(n.Keys, key) {
			t.Errorf("Find of %q in a leaf: %d, %#v; not %d", key, i, ok, at)
		}
	}
	n = inner([]int{4, 5, 6, 7}, "g", "g\x00", "\x80")
	for key, at := range map[string]int{"": 0, "\x00": 0, "a": 0, "f\xff": 0, "g": 1, "g\x00": 2, "g\x00\x00": 2, "h": 2, "\x7f\xff": 2, "\x80": 3, "\xff": 3} {
		if i, ok := wantFind(t, n, key); i != at || ok != slices.Contains(n.Keys, key) {
			t.Errorf("Find of %q in an inner one: %d, %#v; not %d", key, i, ok, at)
		}
	}
}

func TestFindInEachNode(t *testing.T) {
	for _, n := range rights() {
		for _, key := range asked(n) {
			wantFind(t, n, key)
		}
		for i, k := range n.Keys {
			if at, ok := node.Find(n, k); at != i || !ok {
				t.Fatalf("Find of the Key %d of %#v: %d, %#v", i, n, at, ok)
			}
		}
	}
}

func TestFindInWhatMayNotBe(t *testing.T) {
	for what, n := range wrongs() {
		for _, key := range asked(n) {
			if i, ok := wantFind(t, n, key); i != 0 || ok {
				t.Errorf("Find of %q in %s: %d, %#v", key, what, i, ok)
			}
		}
	}
}

// P14.4

// between is a key between the Keys ahead of a place and those from there on, if a byte more makes one.
func between(n node.Node, i int) string {
	if i == 0 {
		return ""
	}
	return n.Keys[i-1] + "\x00"
}

func TestInsert(t *testing.T) {
	n := leaf("b", "x", "d", "y")
	val := []byte("new")
	for i, need := range []node.Node{leaf("a", "new", "b", "x", "d", "y"), leaf("b", "x", "c", "new", "d", "y"), leaf("b", "x", "d", "y", "e", "new")} {
		if got, e := wantInsert(t, n, i, need.Keys[i], val, 9); e != api.OK || !same(got, need) {
			t.Errorf("Insert: %#v, error %d; not %#v", got, e, need)
		}
	}
	in := inner([]int{4, 5}, "g")
	for i, need := range map[int]node.Node{1: inner([]int{4, 9, 5}, "f", "g"), 2: inner([]int{4, 5, 9}, "g", "h")} {
		if got, e := wantInsert(t, in, i, need.Keys[i], val, 9); e != api.OK || !same(got, need) {
			t.Errorf("Insert: %#v, error %d; not %#v", got, e, need)
		}
	}
}

func TestInsertAtEachPlace(t *testing.T) {
	for _, n := range rights() {
		for i := range len(n.Keys) + 1 {
			for _, key := range []string{between(n, i), "a", keyOf(0, 40), "\xff\xff\xff"} {
				wantInsert(t, n, i, key, []byte("val"), 7)
			}
		}
		got, e := wantInsert(t, n, len(n.Keys), "\xff\xff\xff", nil, 0)
		if wantOK(t, "Insert at the end", e); len(got.Keys) != len(n.Keys)+1 {
			t.Fatalf("Insert at the end: %#v", got)
		}
	}
}

// ErrForm of what may not be is told ahead of ErrNone of the place, and that ahead of ErrForm of what would come out.
func TestInsertRefuses(t *testing.T) {
	for what, n := range wrongs() {
		for _, i := range []int{-1, 0, 1, len(n.Keys), len(n.Keys) + 1, math.MinInt, math.MaxInt} {
			_, e := wantInsert(t, n, i, "zz", nil, 1)
			wantError(t, "Insert into "+what, e, api.ErrForm)
		}
	}
	for _, n := range rights() {
		for _, i := range []int{-1, -2, len(n.Keys) + 1, len(n.Keys) + 2, math.MinInt, math.MaxInt, 1 << 32} {
			for _, key := range []string{"\xff\xff\xff", "", strings.Repeat("k", 41)} {
				_, e := wantInsert(t, n, i, key, make([]byte, 50), -1)
				wantError(t, "Insert at no place", e, api.ErrNone)
			}
		}
		for i := range len(n.Keys) + 1 {
			_, e := wantInsert(t, n, i, strings.Repeat("k", 41), nil, 1)
			wantError(t, "Insert of a Key of 41 bytes", e, api.ErrForm)
			if i < len(n.Keys) {
				_, e = wantInsert(t, n, i, n.Keys[i], nil, 1)
				wantError(t, "Insert of the Key that is there", e, api.ErrForm)
				_, e = wantInsert(t, n, i, "\xff\xff\xff", nil, 1)
				wantError(t, "Insert of a Key that is too great", e, api.ErrForm)
			}
			if i > 0 {
				_, e = wantInsert(t, n, i, n.Keys[i-1], nil, 1)
				wantError(t, "Insert of the Key ahead", e, api.ErrForm)
				_, e = wantInsert(t, n, i, "", nil, 1)
				wantError(t, "Insert of an empty Key", e, api.ErrForm)
			}
		}
	}
	for _, key := range []string{"", "\x00", "a"} { // no cell comes ahead of an inner node's first one
		_, e := wantInsert(t, inner([]int{4, 5}, "g"), 0, key, nil, 3)
		wantError(t, "Insert at an inner node's beginning", e, api.ErrForm)
	}
}

// Of a leaf val counts, of an inner one kid: the other one may be anything.
func TestInsertOfWhatCounts(t *testing.T) {
	n, in := leaf("b", "x"), inner([]int{4, 5}, "g")
	for _, kid := range []int{0, 7, -1, greatest, greatest + 1, math.MinInt, math.MaxInt, 1 << 32} {
		got, e := wantInsert(t, n, 1, "c", []byte("y"), kid)
		if wantOK(t, "Insert into a leaf", e); !same(got, leaf("b", "x", "c", "y")) {
			t.Errorf("Insert into a leaf: %#v", got)
		}
		need := api.OK
		if kid < 0 || kid > greatest {
			need = api.ErrForm
		}
		_, e = wantInsert(t, in, 2, "h", []byte("y"), kid)
		wantError(t, "Insert into an inner one", e, need)
	}
	for size := range 60 {
		val := make([]byte, size)
		got, e := wantInsert(t, in, 1, "f", val, 6)
		if wantOK(t, "Insert into an inner one", e); !same(got, inner([]int{4, 6, 5}, "f", "g")) {
			t.Errorf("Insert into an inner one: %#v", got)
		}
		need := api.OK
		if size > 49 {
			need = api.ErrForm
		}
		_, e = wantInsert(t, n, 0, "a", val, 6)
		wantError(t, "Insert into a leaf", e, need)
	}
	got, e := wantInsert(t, leaf(), 0, "", nil, -1)
	if wantOK(t, "Insert into a leaf without cells", e); !same(got, leaf("", "")) {
		t.Errorf("Insert into a leaf without cells: %#v", got)
	}
}

// What comes out need not fit.
func TestInsertOfMoreThanFits(t *testing.T) {
	for _, n := range []node.Node{sizedLeaf(93, 93, 58), many(true, 48), many(false, 30), sizedInner(47, 47, 47, 47, 41, 8)} {
		got, e := wantInsert(t, n, len(n.Keys), keyOf(250, 40), make([]byte, 49), 1)
		if wantOK(t, "Insert", e); !node.Fits(n) || node.Fits(got) {
			t.Errorf("Insert: %#v fits", got)
		}
	}
}

func TestRemove(t *testing.T) {
	n := leaf("a", "x", "b", "y", "c", "z")
	for i, need := range []node.Node{leaf("b", "y", "c", "z"), leaf("a", "x", "c", "z"), leaf("a", "x", "b", "y")} {
		if got, e := wantRemove(t, n, i); e != api.OK || !same(got, need) {
			t.Errorf("Remove: %#v, error %d; not %#v", got, e, need)
		}
	}
	in := inner([]int{4, 5, 6}, "g", "m")
	for i, need := range []node.Node{inner([]int{5, 6}, "m"), inner([]int{4, 6}, "m"), inner([]int{4, 5}, "g")} {
		if got, e := wantRemove(t, in, i); e != api.OK || !same(got, need) {
			t.Errorf("Remove: %#v, error %d; not %#v", got, e, need)
		}
	}
	if got, e := wantRemove(t, leaf("a", "x"), 0); e != api.OK || !same(got, leaf()) {
		t.Errorf("Remove of a leaf's only cell: %#v, error %d", got, e)
	}
	if got, e := wantRemove(t, inner([]int{4, 5}, "g"), 0); e != api.OK || !same(got, inner([]int{5})) {
		t.Errorf("Remove of the first of two cells: %#v, error %d", got, e)
	}
	_, e := wantRemove(t, inner([]int{4}), 0)
	wantError(t, "Remove of an inner node's only cell", e, api.ErrForm)
}

func TestRemoveAtEachPlace(t *testing.T) {
	for _, n := range rights() {
		for i := range n.Keys {
			_, e := wantRemove(t, n, i)
			if !n.Leaf && len(n.Keys) == 1 {
				wantError(t, "Remove of an inner node's only cell", e, api.ErrForm)
			} else {
				wantOK(t, "Remove", e)
			}
		}
		for _, i := range []int{-1, -2, len(n.Keys), len(n.Keys) + 1, math.MinInt, math.MaxInt, 1 << 32} {
			_, e := wantRemove(t, n, i) // of an inner node of one cell, too
			wantError(t, "Remove at no place", e, api.ErrNone)
		}
	}
	for what, n := range wrongs() {
		for _, i := range []int{-1, 0, 1, len(n.Keys), math.MinInt, math.MaxInt} {
			_, e := wantRemove(t, n, i)
			wantError(t, "Remove from "+what, e, api.ErrForm)
		}
	}
}

// P14.5

func TestCut(t *testing.T) {
	for _, x := range []struct{ n, a, b node.Node }{
		{leaf("a", "x", "b", "y"), leaf("a", "x"), leaf("b", "y")},
		{leaf("", "", "b", strings.Repeat("y", 49)), leaf("", ""), leaf("b", strings.Repeat("y", 49))},
		{leaf("a", "x", "b", "y", "c", "z"), leaf("a", "x"), leaf("b", "y", "c", "z")}, // both places are alike
		{leaf("a", "xxx", "b", "y", "c", "z"), leaf("a", "xxx"), leaf("b", "y", "c", "z")},
		{leaf("a", "x", "b", "y", "c", "zz"), leaf("a", "x", "b", "y"), leaf("c", "zz")},
		{leaf("a", "x", "b", "yyyyyyyyy", "c", "z"), leaf("a", "x"), leaf("b", "yyyyyyyyy", "c", "z")}, // alike, too
		{inner([]int{4, 5}, "g"), inner([]int{4}), inner([]int{5})},
		{inner([]int{4, 5}, keyOf(0, 40)), inner([]int{4}), inner([]int{5})},
		{inner([]int{4, 5, 6}, "g", "m"), inner([]int{4, 5}, "g"), inner([]int{6})}, // 7, 8 and 8: the Key that is lost counts
		{inner([]int{4, 5, 6}, "gg", "m"), inner([]int{4, 5}, "gg"), inner([]int{6})},
		{inner([]int{4, 5, 6}, "g", "mm"), inner([]int{4, 5}, "g"), inner([]int{6})},
		{inner([]int{4, 5, 6, 7}, "g", "h", "i"), inner([]int{4, 5}, "g"), inner([]int{6, 7}, "i")},
		{inner([]int{4, 5, 6, 7}, "g", "h", "iiiiiiii"), inner([]int{4, 5}, "g"), inner([]int{6, 7}, "iiiiiiii")},   // 15 and 23, 23 and 15
		{inner([]int{4, 5, 6, 7}, "g", "h", "iiiiiiiii"), inner([]int{4, 5, 6}, "g", "h"), inner([]int{7})},         // 15 and 24, 23 and 16
		{inner([]int{4, 5, 6, 7}, "ggggggggg", "h", "i"), inner([]int{4, 5}, "ggggggggg"), inner([]int{6, 7}, "i")}, // 7 and 16, 8 and 8
	} {
		a, b, e := wantCut(t, x.n)
		if wantOK(t, "Cut", e); !same(a, x.a) || !same(b, x.b) {
			t.Errorf("Cut of %#v: %#v and %#v", x.n, a, b)
		}
	}
}

func TestCutOfEachNode(t *testing.T) {
	for _, n := range rights() {
		a, b, e := wantCut(t, n)
		if len(n.Keys) < 2 {
			if wantError(t, "Cut of less than two cells", e, api.ErrNone); !same(a, node.Node{}) || !same(b, node.Node{}) {
				t.Errorf("Cut of %#v: %#v and %#v", n, a, b)
			}
			continue
		}
		if e != api.OK || !node.Right(a) || !node.Right(b) || len(a.Keys) == 0 || len(b.Keys) == 0 {
			t.Errorf("Cut of %#v: %#v and %#v, error %d", n, a, b, e)
		}
	}
	for what, n := range wrongs() { // those of less than two cells among them
		a, b, e := wantCut(t, n)
		if wantError(t, "Cut of "+what, e, api.ErrForm); !same(a, node.Node{}) || !same(b, node.Node{}) {
			t.Errorf("Cut of %s: %#v and %#v", what, a, b)
		}
	}
}

// Nodes of three cells of all sizes: either place may be the better one, and where both are alike the first is told.
func TestCutOfThreeCells(t *testing.T) {
	alike := 0
	for first := 5; first <= 23; first++ {
		for mid := 5; mid <= 23; mid++ {
			for last := 5; last <= 23; last++ {
				n := sizedLeaf(first, mid, last)
				a, _, e := node.Cut(n)
				at := 1
				switch {
				case first < last:
					at = 2
				case first == last:
					alike++
				}
				if e != api.OK || len(a.Keys) != at {
					t.Fatalf("Cut of %d, %d and %d bytes: %#v, error %d", first, mid, last, a, e)
				}
			}
		}
	}
	if alike != 19*19 {
		t.Errorf("%d are alike", alike)
	}
	for mid := 8; mid <= 47; mid++ {
		for last := 8; last <= 47; last++ { // the first cell takes 7: the last one takes more
			n := sizedInner(mid, last)
			if a, b, e := node.Cut(n); e != api.OK || len(a.Keys) != 2 || !slices.Equal(b.Keys, []string{""}) {
				t.Fatalf("Cut of 7, %d and %d bytes: %#v and %#v, error %d", mid, last, a, b, e)
			}
		}
	}
}

func TestJoin(t *testing.T) {
	got, e := wantJoin(t, leaf("a", "x"), "", leaf("b", "y", "c", ""))
	if wantOK(t, "Join", e); !same(got, leaf("a", "x", "b", "y", "c", "")) {
		t.Errorf("Join of leaves: %#v", got)
	}
	got, e = wantJoin(t, inner([]int{4, 5}, "g"), "m", inner([]int{6, 7}, "z"))
	if wantOK(t, "Join", e); !same(got, inner([]int{4, 5, 6, 7}, "g", "m", "z")) {
		t.Errorf("Join of inner ones: %#v", got)
	}
	got, e = wantJoin(t, inner([]int{4}), "m", inner([]int{6}))
	if wantOK(t, "Join", e); !same(got, inner([]int{4, 6}, "m")) {
		t.Errorf("Join of inner ones of one cell: %#v", got)
	}
}

func TestJoinOfEachTwo(t *testing.T) {
	joined := 0
	for _, a := range rights() {
		for _, b := range rights() {
			for _, key := range []string{"", "m", between(a, len(a.Keys))} {
				if _, e := wantJoin(t, a, key, b); e == api.OK {
					joined++
				}
			}
		}
	}
	if joined < 300 {
		t.Errorf("%d are joined: too few to tell", joined)
	}
}

func TestJoinRefuses(t *testing.T) {
	for what, n := range wrongs() {
		for _, x := range []node.Node{leaf(), leaf("m", "x"), inner([]int{4}), inner([]int{4, 5}, "g"), n} {
			_, e := wantJoin(t, x, "n", n)
			wantError(t, "Join with "+what+" behind", e, api.ErrForm)
			_, e = wantJoin(t, n, "n", x)
			wantError(t, "Join with "+what+" ahead", e, api.ErrForm)
		}
	}
	for _, key := range []string{"", "a", "m", "z"} {
		for _, n := range []node.Node{leaf(), leaf("m", "x"), leaf("", "")} {
			for _, in := range []node.Node{inner([]int{4}), inner([]int{4, 5}, "n")} {
				_, e := wantJoin(t, n, key, in)
				wantError(t, "Join of a leaf and an inner one", e, api.ErrForm)
				_, e = wantJoin(t, in, key, n)
				wantError(t, "Join of an inner one and a leaf", e, api.ErrForm)
			}
		}
	}
	for _, x := range [][2]node.Node{{leaf("b", ""), leaf("a", "")}, {leaf("b", ""), leaf("b", "")}, {leaf("b", ""), leaf("", "")}, {leaf("a", "", "c", ""), leaf("b", "", "d", "")}, {leaf("\x80", ""), leaf("\x7f", "")}, {leaf("ab", ""), leaf("a", "")}} {
		_, e := wantJoin(t, x[0], "b", x[1])
		wantError(t, "Join of leaves that do not rise", e, api.ErrForm)
	}
}

// Of inner nodes the key comes between; of leaves it does not count.
func TestJoinOfEachKey(t *testing.T) {
	a, b := inner([]int{4, 5}, "g"), inner([]int{6, 7}, "m")
	long := strings.Repeat("h", 40)
	for key, need := range map[string]api.Errno{"g\x00": api.OK, "h": api.OK, "lzz": api.OK, "l\xff": api.OK, long: api.OK, long + "h": api.ErrForm, "g": api.ErrForm, "f": api.ErrForm, "": api.ErrForm, "m": api.ErrForm, "m\x00": api.ErrForm, "n": api.ErrForm, "\xff": api.ErrForm} {
		_, e := wantJoin(t, a, key, b)
		wantError(t, "Join of inner ones by "+key, e, need)
	}
	// Behind a node of one cell there is no Key that it must be less than.
	for key, need := range map[string]api.Errno{"g\x00": api.OK, "\xff": api.OK, "g": api.ErrForm, "": api.ErrForm, strings.Repeat("z", 40): api.OK, strings.Repeat("z", 41): api.ErrForm} {
		_, e := wantJoin(t, a, key, inner([]int{6}))
		wantError(t, "Join of an inner one of one cell", e, need)
	}
	for _, key := range []string{"", "a", "zz", long + "h", strings.Repeat("z", 300)} {
		got, e := wantJoin(t, leaf("a", "x"), key, leaf("b", "y"))
		if wantOK(t, "Join of leaves", e); !same(got, leaf("a", "x", "b", "y")) {
			t.Errorf("Join of leaves by %q: %#v", key, got)
		}
	}
}

func TestJoinOfLeavesWithoutCells(t *testing.T) {
	n := leaf("a", "x", "b", "y")
	for _, x := range [][2]node.Node{{leaf(), n}, {n, leaf()}, {leaf(), leaf()}} {
		got, e := wantJoin(t, x[0], "", x[1])
		if wantOK(t, "Join", e); len(got.Keys) != len(x[0].Keys)+len(x[1].Keys) || !got.Leaf {
			t.Errorf("Join of %#v and %#v: %#v", x[0], x[1], got)
		}
	}
	if n, e := wantJoin(t, sizedLeaf(93, 93, 58), "", leaf("\xff", "")); e != api.OK || node.Fits(n) {
		t.Errorf("Join to what does not fit: %#v, error %d", n, e)
	}
}
