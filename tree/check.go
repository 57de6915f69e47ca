package tree

import (
	"slices"

	"tabulary/api"
	"tabulary/node"
)

// census is what Check has met.
type census struct {
	tree    *Tree
	unmet   map[int]struct{} // pages that are taken, and were not met yet
	deep    int              // how deep the leaves lie; 0: none was met
	keys    int
	pages   []int
	refused api.Errno // what was refused first: what is behind it is gone through still, as ErrForm would be told ahead of it
}

// Check goes through all.
func (t *Tree) Check() (keys int, pages []int, e api.Errno) {
	if !t.made() {
		return 0, nil, api.ErrNil
	}
	taken, e := t.space.Taken()
	if e != api.OK { // each page might be
		taken = all(t.space.Pool().Count())
	}
	c := census{tree: t, unmet: set(taken), refused: e}
	if e := c.node(t.top()); e != api.OK {
		return 0, nil, e
	}
	if c.refused != api.OK {
		return 0, nil, c.refused
	}
	slices.Sort(c.pages)
	return c.keys, c.pages, api.OK
}

// all are the numbers below n.
func all(n int) []int {
	l := make([]int, n)
	for i := range l {
		l[i] = i
	}
	return l
}

// note notes what is refused, but for ErrForm, which ends all.
func (c *census) note(e api.Errno) api.Errno {
	if e == api.ErrForm {
		return e
	}
	if c.refused == api.OK {
		c.refused = e
	}
	return api.OK
}

// page notes a page, which is to be taken, and not to be met again.
func (c *census) page(no int) api.Errno {
	if _, ok := c.unmet[no]; !ok {
		return api.ErrForm
	}
	delete(c.unmet, no)
	c.pages = append(c.pages, no)
	return api.OK
}

// node goes through the node at a spot, and all below it.
func (c *census) node(at spot) api.Errno {
	if e := c.page(at.no); e != api.OK {
		return e
	}
	n, e := c.tree.sound(at)
	switch {
	case e != api.OK:
		return c.note(e)
	case n.Leaf:
		return c.leaf(at, n)
	}
	for i := range n.Kids {
		if e := c.node(at.below(n, i)); e != api.OK {
			return e
		}
	}
	return api.OK
}

// leaf goes through a leaf, and the blobs of its keys.
func (c *census) leaf(at spot, n node.Node) api.Errno {
	if c.deep == 0 {
		c.deep = at.deep
	}
	if at.deep != c.deep {
		return api.ErrForm
	}
	c.keys += len(n.Keys)
	for _, v := range n.Vals {
		if e := c.blob(v); e != api.OK {
			return e
		}
	}
	return api.OK
}

// blob goes through the pages of a Val's blob. A tree whose blob may not be read is none, but where that hangs on the power, or on the frames.
func (c *census) blob(val []byte) api.Errno {
	nos, e := c.tree.blobPages(val)
	switch e {
	case api.OK:
	case api.ErrDown, api.ErrBusy:
		return c.note(e)
	default:
		return api.ErrForm
	}
	for _, no := range nos {
		if e := c.page(no); e != api.OK {
			return e
		}
	}
	return api.OK
}
