package node_test

import (
	"bytes"
	"math"
	"slices"
	"strings"
	"testing"

	"tabulary/api"
	"tabulary/node"
)

// dice throws the same numbers each time.
type dice uint64

func (d *dice) throw() uint64 {
	*d = *d*6364136223846793005 + 1442695040888963407
	return uint64(*d>>32)<<32 ^ uint64(*d>>16)
}

func (d *dice) below(n int) int { return int(d.throw()>>33) % n }

// text is of at most so many bytes, most of them of a few kinds, so that many are alike.
func (d *dice) text(most int) string {
	size := d.below(most + 1)
	switch d.below(4) {
	case 0:
		size = min(size, 2)
	case 1:
		size = most
	}
	b := make([]byte, size)
	for i := range b {
		b[i] = "\x00ab\x7f\x80\xff"[d.below(6)]
		if d.below(8) == 0 {
			b[i] = byte(d.throw())
		}
	}
	return string(b)
}

func (d *dice) kid() int {
	switch d.below(6) {
	case 0:
		return greatest - d.below(2)
	case 1:
		return d.below(2)
	}
	return d.below(greatest)
}

// node is one that may be, with at most so many cells.
func (d *dice) node(most int) node.Node {
	n := node.Node{Leaf: d.below(2) == 0}
	count, key, val := d.below(most+1), d.below(41), d.below(50)
	for range count {
		n.Keys = append(n.Keys, d.text(key))
	}
	slices.Sort(n.Keys)
	n.Keys = slices.Compact(n.Keys)
	if !n.Leaf && (len(n.Keys) == 0 || n.Keys[0] != "") {
		n.Keys = append([]string{""}, n.Keys...)
	}
	for range n.Keys {
		if n.Leaf {
			n.Vals = append(n.Vals, []byte(d.text(val)))
		} else {
			n.Kids = append(n.Kids, d.kid())
		}
	}
	return n
}

// fitting is a node that fits.
func (d *dice) fitting() node.Node {
	for {
		if n := d.node(1 + d.below(40)); takenByWords(n) <= 244 {
			return n
		}
	}
}

// broken is a node that mostly may not be, by a part alone.
func (d *dice) broken() node.Node {
	n := d.node([]int{6, 6, 6, 20}[d.below(4)])
	at := d.below(len(n.Keys) + 1)
	switch d.below(12) {
	case 0:
		n.Leaf = !n.Leaf
	case 1:
		n.Keys = slices.Insert(n.Keys, at, d.text(41))
	case 2:
		n.Vals = append(n.Vals, []byte("v"))
	case 3:
		n.Kids = append(n.Kids, d.kid())
	case 4:
		n.Kids, n.Vals = nil, nil
	}
	if at == len(n.Keys) {
		return n
	}
	switch d.below(6) {
	case 0:
		n.Keys[at] = d.text(3)
	case 1:
		n.Keys[at] = strings.Repeat("k", 39+d.below(3))
	case 2:
		if at < len(n.Vals) {
			n.Vals[at] = make([]byte, 48+d.below(3))
		}
	case 3:
		if at < len(n.Kids) {
			n.Kids[at] = []int{-1, greatest, greatest + 1, math.MinInt, math.MaxInt}[d.below(5)]
		}
	}
	return n
}

// brokenPage is a page that is mostly almost a node's.
func (d *dice) brokenPage() []byte {
	n := d.fitting()
	if len(n.Keys) > 4 {
		n = inner([]int{d.kid(), d.kid(), d.kid()}, "a", "b"+d.text(20))
	}
	cells := cellsByWords(n)
	for range d.below(3) {
		if len(cells) == 0 {
			break
		}
		at := d.below(len(cells))
		c := []byte(cells[at])
		if len(c) == 0 {
			break
		}
		switch d.below(6) {
		case 0:
			c[d.below(len(c))] += byte(d.below(3) - 1)
		case 1:
			c = c[:d.below(len(c))]
		case 2:
			c = append(c, byte(d.below(2)))
		case 3:
			c[d.below(len(c))] = byte(d.throw())
		case 4:
			c = slices.Concat([]byte{c[0] | 128, 0}, c[1:])
		case 5:
			slices.Reverse(cells)
			continue
		}
		cells[at] = string(c)
	}
	p := aPage(d.kid(), byte(5+d.below(2)), cells[:min(len(cells), 8)]...)
	if d.below(8) == 0 {
		p[d.below(256)] = byte(d.throw())
	}
	return p
}

// place is one of so many, or just ahead of them or behind them.
func (d *dice) place(n int) int { return d.below(n+3) - 1 }

// P14.1 to P14.5, by the chapter's words

func TestByTheChaptersWords(t *testing.T) {
	d, right := dice(14), 0
	told := map[string]map[api.Errno]int{"Bytes": {}, "Insert": {}, "Remove": {}, "Cut": {}, "Join": {}}
	for range 20000 {
		n, other := d.broken(), d.broken()
		if rightByWords(n) {
			right++
		}
		wantSize(t, n)
		wantFind(t, n, d.text(3))
		_, e := wantBytes(t, d.kid()-d.below(2), n)
		told["Bytes"][e]++
		_, e = wantInsert(t, n, d.place(len(n.Keys)), d.text(5), []byte(d.text(50)), d.kid()-d.below(2))
		told["Insert"][e]++
		_, e = wantRemove(t, n, d.place(len(n.Keys)))
		told["Remove"][e]++
		_, _, e = wantCut(t, n)
		told["Cut"][e]++
		_, e = wantJoin(t, n, d.text(5), other)
		told["Join"][e]++
	}
	if right < 5000 || right > 15000 {
		t.Errorf("%d may be: too few, or too many, to tell", right)
	}
	for call, need := range map[string][]api.Errno{"Bytes": {api.OK, api.ErrForm, api.ErrRoom, api.ErrInvalid}, "Insert": {api.OK, api.ErrForm, api.ErrNone}, "Remove": {api.OK, api.ErrForm, api.ErrNone}, "Cut": {api.OK, api.ErrForm, api.ErrNone}, "Join": {api.OK, api.ErrForm}} {
		for _, e := range need {
			if told[call][e] < 300 {
				t.Errorf("%s tells %d %d times: too few to tell", call, e, told[call][e])
			}
		}
	}
}

func TestParseByTheChaptersWords(t *testing.T) {
	d, told := dice(141), map[api.Errno]int{}
	for range 30000 {
		_, e := wantParse(t, d.brokenPage())
		told[e]++
	}
	if told[api.OK] < 5000 || told[api.ErrForm] < 5000 {
		t.Errorf("%#v: too few to tell", told)
	}
}

// Calls that are made one behind the other, each of what the one ahead told.
func TestOneBehindTheOther(t *testing.T) {
	d, cells, refused := dice(142), 0, 0
	for range 150 {
		n := d.node(d.below(8))
		for range 80 {
			i, next, e := d.place(len(n.Keys)), n, api.OK
			key := d.text(4)
			if at, there := findByWords(n, key); !there && d.below(4) > 0 {
				if i = at; !n.Leaf {
					i++ // behind the last one that is not greater
				}
			}
			switch d.below(8) {
			case 0, 1:
				next, e = wantRemove(t, n, i)
			case 2:
				a, b, f := wantCut(t, n)
				if e = f; e == api.OK {
					next = []node.Node{a, b}[d.below(2)]
				}
			case 3:
				other := d.node(5)
				next, e = wantJoin(t, n, key, other)
			default:
				next, e = wantInsert(t, n, i, key, []byte(d.text(49)), d.kid())
			}
			if e != api.OK {
				refused++
				continue
			}
			wantSize(t, next)
			wantFind(t, next, key)
			if p, e := wantBytes(t, d.kid(), next); e == api.OK {
				next, e = wantParse(t, p)
				wantOK(t, "Parse", e)
			}
			n = next
			cells = max(cells, len(n.Keys))
		}
	}
	if cells < 15 || refused < 1000 || refused > 9000 {
		t.Errorf("%d cells at most, %d calls are refused: too few, or too many, to tell", cells, refused)
	}
}

// P14.6

// A node that fits has one page, and is told of it; another one has another.
func TestANodeHasOnePage(t *testing.T) {
	d, seen := dice(143), map[string]node.Node{}
	l := rights()
	for range 5000 {
		l = append(l, d.fitting())
	}
	for _, n := range l {
		if !node.Fits(n) {
			continue
		}
		no := d.kid()
		p, e := wantBytes(t, no, n)
		wantOK(t, "Bytes", e)
		got, e := wantParse(t, p)
		if e != api.OK || !same(got, n) {
			t.Fatalf("Parse: %#v, error %d; not %#v", got, e, n)
		}
		again, e := wantBytes(t, no, got)
		if e != api.OK || !bytes.Equal(again, p) {
			t.Fatalf("Bytes again: %#v, error %d; not %#v", again, e, p)
		}
		p, _ = node.Bytes(7, n)
		if other, ok := seen[string(p)]; ok && !same(other, n) {
			t.Fatalf("%#v and %#v have the same page", other, n)
		}
		seen[string(p)] = n
	}
	if len(seen) < 3000 {
		t.Errorf("%d nodes: too few to tell", len(seen))
	}
}

// Whatever page is told as a node is the node's page.
func TestWhatIsParsedPutAgainIsTheSame(t *testing.T) {
	d, parsed := dice(144), 0
	for range 40000 {
		p := d.brokenPage()
		n, e := node.Parse(p)
		if e != api.OK {
			continue
		}
		parsed++
		no := int(p[0])<<24 | int(p[1])<<16 | int(p[2])<<8 | int(p[3])
		again, e := node.Bytes(no, n)
		if e != api.OK || !bytes.Equal(again, with(p, 252, 0, 0, 0, 0)) || !node.Right(n) || !node.Fits(n) {
			t.Fatalf("Bytes: %#v, error %d; not %#v", again, e, p)
		}
	}
	if parsed < 8000 {
		t.Errorf("%d are nodes: too few to tell", parsed)
	}
}

// wantJoinedAgain cuts a node, and joins it by the Key at which it was cut.
func wantJoinedAgain(t *testing.T, n node.Node) {
	t.Helper()
	a, b, e := wantCut(t, n)
	wantOK(t, "Cut", e)
	got, e := wantJoin(t, a, n.Keys[len(a.Keys)], b)
	if e != api.OK || !same(got, n) {
		t.Fatalf("Join of %#v and %#v: %#v, error %d", a, b, got, e)
	}
}

func TestACutNodeIsJoinedAgain(t *testing.T) {
	d, l := dice(145), rights()
	for range 5000 {
		l = append(l, d.node(30))
	}
	for _, n := range l {
		if len(n.Keys) > 1 {
			wantJoinedAgain(t, n)
		}
	}
}

// wantBothFit cuts a node that takes at most 341 bytes.
func wantBothFit(t *testing.T, n node.Node) {
	t.Helper()
	a, b, e := wantCut(t, n)
	if e != api.OK || !node.Fits(a) || !node.Fits(b) {
		t.Fatalf("Cut of %d bytes: %d and %d, error %d, of %#v", node.Taken(n), node.Taken(a), node.Taken(b), e, n)
	}
}

// sized is a leaf or an inner node of cells of any sizes that takes just so many bytes, if the last cell can take what is left.
func (d *dice) sized(all int) node.Node {
	if d.below(2) == 0 {
		var sizes []int
		most := 5 + d.below(89)
		for all > 93 {
			size := min(5+d.below(most-4), all-5)
			sizes, all = append(sizes, size), all-size
		}
		return sizedLeaf(append(sizes, all)...)
	}
	var sizes []int
	most := 8 + d.below(40)
	for all -= 7; all > 47; {
		size := min(8+d.below(most-7), all-8)
		sizes, all = append(sizes, size), all-size
	}
	return sizedInner(append(sizes, all)...)
}

func TestANodeOf341BytesIsCutIntoTwoThatFit(t *testing.T) {
	d, full := dice(146), 0
	for all := 100; all <= 341; all++ {
		for range 40 {
			n := d.sized(all)
			if !node.Right(n) || node.Taken(n) != all {
				t.Fatalf("%#v does not take %d bytes", n, all)
			}
			wantBothFit(t, n)
			wantJoinedAgain(t, n)
			if all == 341 {
				full++
			}
		}
	}
	for _, sizes := range [][]int{{93, 93, 93, 62}, {62, 93, 93, 93}, {93, 62, 93, 93}, {93, 93, 62, 93}, {86, 85, 85, 85}, {5, 93, 93, 93, 57}, {57, 93, 93, 93, 5}, {93, 93}, {5, 5}} {
		wantBothFit(t, sizedLeaf(sizes...))
	}
	if full != 40 {
		t.Errorf("%d nodes of 341 bytes", full)
	}
}

// A cell more, wherever it comes: what fitted is cut into two that fit.
func TestWhatFittedIsCutBehindAnInsert(t *testing.T) {
	d, cut := dice(147), 0
	for range 4000 {
		n := d.fitting()
		key := d.text(40)
		i, there := findByWords(n, key)
		if there {
			continue
		}
		if !n.Leaf {
			i++
		}
		got, e := node.Insert(n, i, key, []byte(d.text(49)), d.kid())
		if wantOK(t, "Insert", e); node.Fits(got) {
			continue
		}
		cut++
		wantBothFit(t, got)
	}
	if cut < 300 {
		t.Errorf("%d are cut: too few to tell", cut)
	}
}
