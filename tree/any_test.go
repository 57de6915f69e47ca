package tree_test

import (
	"maps"
	"slices"
	"testing"

	"tabulary/api"
	"tabulary/space"
	"tabulary/tree"
)

// lain is a node as it is planted: a leaf has no Kids.
type lain struct {
	keys, vals []string
	kids       []int
}

const (
	firstLain = 3 // the root
	lastLain  = 9
	aBlobPage = 10 // of 60 bytes
)

// lie is a node with few keys, and with any of the pages as its Kids.
func (d *dice) lie() lain {
	var l lain
	for c := byte('a'); c < 'i'; c++ {
		if d.below(3) == 0 && len(l.keys) < 3 {
			l.keys = append(l.keys, string([]byte{c}))
		}
	}
	if d.below(2) == 0 {
		for range l.keys {
			l.vals = append(l.vals, []string{here("x"), here("yy"), there(aBlobPage), "\x02"}[d.below(20)/6])
		}
		return l
	}
	if len(l.keys) == 0 {
		l.keys = []string{""}
	}
	l.keys[0] = ""
	for range l.keys {
		l.kids = append(l.kids, firstLain+1+d.below(lastLain-firstLain+1))
	}
	return l
}

func (l lain) page(no int) []byte {
	if l.kids == nil {
		var pairs []string
		for i, k := range l.keys {
			pairs = append(pairs, k, l.vals[i])
		}
		return aLeaf(no, pairs...)
	}
	var cells []cell
	for i, k := range l.keys {
		cells = append(cells, cell{k, l.kids[i]})
	}
	return anInner(no, cells...)
}

// oracle tells by the chapter's words what lies in pages.
type oracle struct {
	nodes map[int]lain
	met   map[int]int
	pairs map[string]string
	deep  int
}

// isTree tells whether the node of a page, with keys from one on and below another, is a tree with those that were met; the blob is read as it is.
func (o *oracle) isTree(no, deep int, low, high string) bool {
	n, ok := o.nodes[no]
	o.met[no]++
	if !ok || o.met[no] > 1 {
		return false
	}
	for i, k := range n.keys {
		if (n.kids == nil || i > 0) && (k < low || high != "" && k >= high) {
			return false
		}
	}
	if n.kids == nil {
		return o.isLeaf(n, deep)
	}
	for i, kid := range n.kids {
		from, to := n.keys[i], high
		if i == 0 {
			from = low
		}
		if i+1 < len(n.keys) {
			to = n.keys[i+1]
		}
		if !o.isTree(kid, deep+1, from, to) {
			return false
		}
	}
	return true
}

func (o *oracle) isLeaf(n lain, deep int) bool {
	if o.deep == 0 {
		o.deep = deep
	}
	for i, k := range n.keys {
		switch v := n.vals[i]; {
		case v[0] == 0:
			o.pairs[k] = v[1:]
		case v[0] == 1 && o.met[aBlobPage] == 0:
			o.met[aBlobPage]++
			o.pairs[k] = some(60)
		default:
			return false
		}
	}
	return o.deep == deep
}

// get tells what a Get answers: the way down ends at a leaf, or never.
func (o *oracle) get(key string) api.Errno {
	no, low, high, ill := firstLain, "", "", false
	for range 20 {
		n, ok := o.nodes[no]
		if !ok {
			return api.ErrForm // the blob's page
		}
		for i, k := range n.keys {
			ill = ill || (n.kids == nil || i > 0) && (k < low || high != "" && k >= high)
		}
		if n.kids == nil {
			i := slices.Index(n.keys, key)
			switch {
			case i < 0:
				return api.ErrNone
			case ill || n.vals[i][0] == 2:
				return api.ErrForm
			}
			return api.OK
		}
		i := len(n.keys) - 1
		for n.keys[i] > key {
			i--
		}
		if i > 0 {
			low = n.keys[i]
		}
		if i+1 < len(n.keys) {
			high = n.keys[i+1]
		}
		no = n.kids[i]
	}
	return api.ErrForm
}

// Nodes that lie anyhow: each call ends, and answers as the chapter's words say; of what is a tree, all of it.
func TestNodesThatLieAnyhow(t *testing.T) {
	t.Parallel()
	_, s := bare(t, 60, 60)
	for no := 1; no <= aBlobPage; no++ {
		s.Alloc()
	}
	plant(t, s, aBlob(some(60), aBlobPage))
	trees, deepest := 0, 0
	for round := range 8000 {
		d := dice(round)
		o := &oracle{nodes: map[int]lain{}, met: map[int]int{}, pairs: map[string]string{}}
		for no := firstLain; no <= lastLain; no++ {
			o.nodes[no] = d.lie()
			if e := s.Pool().Put(no, o.nodes[no].page(no)); e != api.OK {
				t.Fatalf("Put(%d): error %d", no, e)
			}
		}
		s.Pool().Accept()
		x := tree.At(s, firstLain)
		keys, pages, e := x.Check()
		if o.isTree(firstLain, 1, "", "") {
			trees++
			deepest = max(deepest, o.deep)
			if e != api.OK || keys != len(o.pairs) || !slices.Equal(pages, slices.Sorted(maps.Keys(o.met))) {
				t.Fatalf("round %d: Check: %d, %v, error %d; not %d, %v", round, keys, pages, e, len(o.pairs), o.met)
			}
			wantScan(t, x, "", "", 99, o.pairs)
			changesOfTree(t, &d, s, o)
		} else {
			if e != api.ErrForm {
				t.Fatalf("round %d: Check: error %d", round, e)
			}
			changesOfNone(t, s, o)
		}
	}
	if trees < 200 || deepest < 3 {
		t.Fatalf("%d trees, %d deep: too few to tell", trees, deepest)
	}
}

func changesOfTree(t *testing.T, d *dice, s *space.Space, o *oracle) {
	t.Helper()
	for range 8 {
		x := tree.At(s, firstLain)
		key := string([]byte{byte('a' + d.below(8))})
		c := change{key, some(d.below(70)), d.below(2) == 0}
		_, there := o.pairs[key]
		e := c.made(x)
		if !c.isPut && !there {
			if e != api.ErrNone {
				t.Fatalf("Delete(%q): error %d", key, e)
			}
			continue
		}
		all := c.on(o.pairs)
		if e != api.OK {
			t.Fatalf("a change of %q: error %d", key, e)
		}
		keys, _, e := x.Check()
		if e != api.OK || keys != len(all) {
			t.Fatalf("Check behind a change of %q: %d keys, error %d", key, keys, e)
		}
		wantScan(t, x, "", "", 99, all)
		s.Pool().Drop()
	}
}

func changesOfNone(t *testing.T, s *space.Space, o *oracle) {
	t.Helper()
	for c := byte('a'); c < 'i'; c++ {
		x, key := tree.At(s, firstLain), string([]byte{c})
		need := o.get(key)
		if _, e := x.Get(key); e != need {
			t.Fatalf("Get(%q): error %d, not %d", key, e, need)
		}
		x.Scan(key, "", 99)
		x.Scan("", key, 2)
		for _, l := range []change{{key: key}, {key, some(45), true}, {key, some(50), true}} {
			e := l.made(x)
			if !l.isPut && need != api.OK && e != need || l.isPut && need == api.ErrForm && e != need {
				t.Fatalf("a change of %q: error %d, not %d", key, e, need)
			}
			if e != api.OK && (len(s.Pool().Fresh()) > 0 || x.Root() != firstLain) {
				t.Fatalf("a change of %q: error %d, and %v are fresh", key, e, s.Pool().Fresh())
			}
			s.Pool().Drop()
			x = tree.At(s, firstLain)
		}
	}
}
