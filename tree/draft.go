package tree

import (
	"bytes"
	"slices"

	"tabulary/api"
	"tabulary/node"
)

// draft is what a Put or a Delete makes of a tree, ahead of being put into its pages. All that is read is read first: what may not be read is told while nothing has changed.
type draft struct {
	tree  *Tree
	met   map[int]struct{}  // pages of nodes that were read
	nodes map[int]node.Node // those that are to be put, by their pages
	spare []int             // pages that nothing needs any more
	taken map[int]struct{}  // pages that are taken, and not spare; nil: it was not asked yet
	deep  int               // how many nodes stand one below the other
}

// step is what becomes of a node: what it was, and what comes in its place.
type step struct{ was, now node.Node }

// part is a node below an inner one.
type part struct {
	node.Node
	key  string // its Key there
	no   int    // its page; 0, which is always a map: it is to get one
	lies bool   // it lies in its page as it is
}

func (t *Tree) draft() *draft {
	return &draft{tree: t, met: map[int]struct{}{}, nodes: map[int]node.Node{}}
}

// same tells whether nothing comes in a node's place but itself.
func (s step) same() bool {
	return slices.Equal(s.was.Keys, s.now.Keys) && slices.EqualFunc(s.was.Vals, s.now.Vals, bytes.Equal) && slices.Equal(s.was.Kids, s.now.Kids)
}

// less tells whether what comes in a node's place takes less, so that it may have room with a neighbour.
func (s step) less() bool { return node.Taken(s.now) < node.Taken(s.was) }

// isThin tells whether a node is an inner one with one Kid alone.
func isThin(n node.Node) bool { return !n.Leaf && len(n.Kids) == 1 }

// carryOut changes the leaf below which a key is, or would be, and all that hangs on that; body is what the key has then, if it has one.
func (d *draft) carryOut(key string, body []byte, leaf func(node.Node) (node.Node, api.Errno)) api.Errno {
	s, e := d.change(d.tree.top(), key, leaf)
	if e != api.OK {
		return e
	}
	root, e := d.crown(s)
	if e != api.OK {
		return e
	}
	if e := d.free(); e != api.OK {
		return e
	}
	if e := d.put(key, body); e != api.OK {
		return e
	}
	d.tree.root = root
	return api.OK
}

// change goes down to the leaf below which a key is, or would be, and hands it over; on its way up, what comes in the place of each node is made room for in the one above it.
func (d *draft) change(at spot, key string, leaf func(node.Node) (node.Node, api.Errno)) (step, api.Errno) {
	if e := d.meet(at.no); e != api.OK {
		return step{}, e
	}
	n, e := d.tree.node(at)
	if e != api.OK {
		return step{}, e
	}
	at = at.with(n)
	if n.Leaf {
		d.deep = at.deep
		now, e := leaf(n)
		return step{n, now}, at.last(e)
	}
	i, _ := node.Find(n, key)
	kid, e := d.change(at.below(n, i), key, leaf)
	switch {
	case e != api.OK:
		return step{}, e
	case kid.same():
		return step{n, n}, api.OK
	}
	now, e := d.settle(at, n, i, kid)
	return step{n, now}, e
}

// settle is an inner node with what comes in the place of its i-th Kid: two nodes, if that has no room in one page; one node with a neighbour, if both have; none, if it has no cell.
func (d *draft) settle(at spot, n node.Node, i int, kid step) (node.Node, api.Errno) {
	own := part{Node: kid.now, key: n.Keys[i], no: n.Kids[i]}
	if !kid.less() {
		parts, e := cut(own)
		if e != api.OK {
			return node.Node{}, e
		}
		return d.lay(n, i, i+1, parts)
	}
	begin, end := max(i-1, 0), min(i+2, len(n.Kids))
	var parts []part
	for j := begin; j < end; j++ {
		p, e := own, api.OK
		if j != i {
			p, e = d.part(at, n, j)
		}
		if e != api.OK {
			return node.Node{}, e
		}
		parts = append(parts, p)
	}
	parts, e := d.evened(n, begin, end, parts)
	if e != api.OK {
		return node.Node{}, e
	}
	return d.lay(n, begin, end, parts)
}

// part is the i-th Kid of the inner node at a spot, as it lies.
func (d *draft) part(at spot, n node.Node, i int) (part, api.Errno) {
	if e := d.meet(n.Kids[i]); e != api.OK {
		return part{}, e
	}
	kid, e := d.tree.sound(at.below(n, i))
	return part{Node: kid, key: n.Keys[i], no: n.Kids[i], lies: true}, e
}

// meet notes the page of a node that is read. None may be met twice: what is put in one's place would be put in the other one's, too.
func (d *draft) meet(no int) api.Errno {
	if _, ok := d.met[no]; ok {
		return api.ErrForm
	}
	d.met[no] = struct{}{}
	return api.OK
}

// evened are parts of an inner node, from one place up to another, that are joined where they fit, and none of which is thin beside another one: it gets some of that one's Kids. So each inner node has two Kids at least, which bounds how deep a tree is, and how many pages a Put needs. The Key between both may be longer than it was; where the pages that are left might not be enough for what that makes of the nodes above, a thin one stays, so that a Delete takes none of the last pages.
func (d *draft) evened(n node.Node, begin, end int, parts []part) ([]part, api.Errno) {
	parts, gone := joined(parts)
	if e := d.giveUp(gone...); e != api.OK {
		return nil, e
	}
	for i := 1; i < len(parts); i++ {
		if !isThin(parts[i-1].Node) && !isThin(parts[i].Node) {
			continue
		}
		two, e := shared(parts[i-1], parts[i])
		if e != api.OK {
			return nil, e
		}
		l := slices.Concat(parts[:i-1], two, parts[i+1:])
		ok, e := d.hasRoom(withParts(n, begin, end, l))
		if e != api.OK {
			return nil, e
		}
		if ok {
			return d.evened(n, begin, end, l) // one of the two may fit with another one
		}
	}
	return parts, api.OK
}

// joined are parts of which no two neighbours fit into one page, and none is without a cell; and the pages that are not needed any more.
func joined(parts []part) (l []part, gone []int) {
	for _, p := range parts {
		if len(p.Keys) == 0 {
			gone = append(gone, p.no)
			continue
		}
		if last := len(l) - 1; last >= 0 {
			both, e := node.Join(l[last].Node, p.key, p.Node)
			if e == api.OK && node.Fits(both) {
				l[last] = part{Node: both, key: l[last].key, no: l[last].no}
				gone = append(gone, p.no)
				continue
			}
		}
		l = append(l, p)
	}
	return l, gone
}

// shared are two parts, which do not fit into one page, with what both have shared evenly.
func shared(a, b part) ([]part, api.Errno) {
	both, e := node.Join(a.Node, b.key, b.Node)
	if e != api.OK {
		return nil, e
	}
	two, e := cut(part{Node: both, key: a.key, no: a.no})
	if e != api.OK {
		return nil, e
	}
	two[1].no = b.no
	return two, api.OK
}

// hasRoom tells whether an inner node fits, or enough pages are left to cut it and all that stand above it.
func (d *draft) hasRoom(n node.Node) (bool, api.Errno) {
	if node.Fits(n) {
		return true, api.OK
	}
	left, e := d.tree.space.Left()
	return left > mostDeep, e
}

// cut are two parts in the place of one that does not fit into a page.
func cut(p part) ([]part, api.Errno) {
	if node.Fits(p.Node) {
		return []part{p}, api.OK
	}
	a, b, e := node.Cut(p.Node)
	if e != api.OK {
		return nil, e
	}
	return []part{{Node: a, key: p.key, no: p.no}, {Node: b, key: p.Keys[len(a.Keys)]}}, api.OK
}

// lay gives parts their pages, and tells an inner node with them in the place of its cells from one place up to another. A page is taken only where a node was cut, and above that nodes grow: nothing is read any more.
func (d *draft) lay(n node.Node, begin, end int, parts []part) (node.Node, api.Errno) {
	for i, p := range parts {
		if p.lies {
			continue
		}
		if p.no == 0 {
			var e api.Errno
			if p.no, e = d.tree.space.Alloc(); e != api.OK {
				return node.Node{}, e
			}
			parts[i].no = p.no
		}
		d.nodes[p.no] = p.Node
	}
	return withParts(n, begin, end, parts), api.OK
}

// withParts is an inner node with parts in the place of its cells from one place up to another.
func withParts(n node.Node, begin, end int, parts []part) node.Node {
	var keys []string
	var kids []int
	for _, p := range parts {
		keys = append(keys, p.key)
		kids = append(kids, p.no)
	}
	n = node.Node{Keys: slices.Concat(n.Keys[:begin], keys, n.Keys[end:]), Kids: slices.Concat(n.Kids[:begin], kids, n.Kids[end:])}
	if len(n.Keys) > 0 {
		n.Keys[0] = ""
	}
	return n
}

// crown tells the page of the root that comes in the place of the tree's: one above what has no room in a page, or the only Kid's.
func (d *draft) crown(s step) (int, api.Errno) {
	if s.same() {
		return d.tree.root, api.OK
	}
	n, at := s.now, d.tree.top()
	if len(n.Keys) == 0 {
		n = node.Node{Leaf: true}
	}
	if node.Fits(n) {
		d.nodes[at.no] = n
		return d.lower(at, n)
	}
	if d.deep == mostDeep {
		return 0, api.ErrForm
	}
	parts, e := cut(part{Node: n, no: at.no})
	if e != api.OK {
		return 0, e
	}
	top, e := d.lay(node.Node{}, 0, 0, parts)
	if e != api.OK {
		return 0, e
	}
	no, e := d.tree.space.Alloc()
	if e != api.OK {
		return 0, e
	}
	d.nodes[no] = top
	return no, api.OK
}

// lower tells the first node from the one at a spot on, down the only Kids, that is not thin; all above it are spare.
func (d *draft) lower(at spot, n node.Node) (int, api.Errno) {
	for isThin(n) {
		delete(d.nodes, at.no)
		if e := d.giveUp(at.no); e != api.OK {
			return 0, e
		}
		at = at.below(n, 0)
		if _, ok := d.taken[at.no]; !ok { // it stood below another node, too, and is spare
			return 0, api.ErrForm
		}
		kid, ok := d.nodes[at.no]
		if !ok {
			var e api.Errno
			if kid, e = d.tree.sound(at); e != api.OK {
				return 0, e
			}
		}
		n = kid
	}
	return at.no, api.OK
}
