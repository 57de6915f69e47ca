package tree

import (
	"maps"
	"slices"

	"tabulary/api"
	"tabulary/blob"
	"tabulary/node"
)

// without is a leaf but for its i-th key; its blob's pages are spare.
func (d *draft) without(n node.Node, i int) (node.Node, api.Errno) {
	nos, e := d.tree.blobPages(n.Vals[i])
	if e != api.OK {
		return node.Node{}, e
	}
	if e := d.giveUp(nos...); e != api.OK {
		return node.Node{}, e
	}
	return node.Remove(n, i)
}

// giveUp makes pages spare. What the space would refuse is told here, while nothing has changed.
func (d *draft) giveUp(nos ...int) api.Errno {
	for _, no := range nos {
		if d.taken == nil {
			l, e := d.tree.space.Taken()
			if e != api.OK {
				return e
			}
			d.taken = set(l)
		}
		if _, ok := d.taken[no]; !ok { // or it is spare already: none is given back twice
			return api.ErrNone
		}
		delete(d.taken, no)
		d.spare = append(d.spare, no)
	}
	return api.OK
}

// set is a set of numbers.
func set(l []int) map[int]struct{} {
	s := make(map[int]struct{}, len(l))
	for _, no := range l {
		s[no] = struct{}{}
	}
	return s
}

// free gives back the pages that are spare.
func (d *draft) free() api.Errno {
	for _, no := range d.spare {
		if e := d.tree.space.Free(no); e != api.OK {
			return e
		}
	}
	return api.OK
}

// put puts the body's blob, if it is too long for a leaf, and the nodes.
func (d *draft) put(key string, body []byte) api.Errno {
	if len(body) > mostInLeaf {
		first, e := blob.Put(d.tree.space, body)
		if e != api.OK {
			return e
		}
		d.point(key, valOf(body, first))
	}
	for _, no := range slices.Sorted(maps.Keys(d.nodes)) {
		if e := d.tree.write(no, d.nodes[no]); e != api.OK {
			return e
		}
	}
	return api.OK
}

// point gives a key its Val, in the one leaf that has it.
func (d *draft) point(key string, val []byte) {
	for _, n := range d.nodes {
		if i, ok := node.Find(n, key); ok && n.Leaf {
			n.Vals[i] = val
		}
	}
}
