package tree_test

import (
	"maps"
	"slices"
	"strconv"
	"testing"

	"tabulary/api"
	"tabulary/space"
	"tabulary/tree"
)

// P15.5

// enough is how many pages of a space are enough for each Put, and how many frames more than a pool has fresh and dirty pages.
const enough = 40

// builder plants the pages of a tree, with keys of 40 bytes that rise.
type builder struct {
	no    int // the next page
	count int // how many keys there were
	pages map[int][]byte
	pairs map[string]string
}

func newBuilder(n int) *builder {
	return &builder{no: (n + 1919) / 1920, pages: map[int][]byte{}, pairs: map[string]string{}}
}

// leaf is one with so many keys, whose bodies have so many bytes; it tells the first key, and the page.
func (b *builder) leaf(sizes ...int) cell {
	var l []string
	for _, n := range sizes {
		k := long(strconv.Itoa(100000 + b.count))
		b.count++
		b.pairs[k] = some(n)
		l = append(l, k, here(some(n)))
	}
	b.no++
	b.pages[b.no-1] = aLeaf(b.no-1, l...)
	return cell{l[0], b.no - 1}
}

// inner is a node with such Kids; it tells the first key below it, and its page.
func (b *builder) inner(l ...cell) cell {
	first := l[0].key
	l[0].key = ""
	b.no++
	b.pages[b.no-1] = anInner(b.no-1, l...)
	return cell{first, b.no - 1}
}

// twofold is a tree of as few pages as its depth allows: each inner node has two Kids, each leaf a key.
func (b *builder) twofold(deep, size int) cell {
	if deep == 1 {
		return b.leaf(size)
	}
	return b.inner(b.twofold(deep-1, size), b.twofold(deep-1, size))
}

// full is a tree in which the nodes on the way to one leaf are full; all others are as small as may be. The first key of that leaf has a body of 47 bytes.
func (b *builder) full(deep, way int) cell {
	if deep == 1 {
		return b.leaf(47, 48, 0)
	}
	var l []cell
	for i := range 6 {
		if i == way {
			l = append(l, b.full(deep-1, way))
		} else {
			l = append(l, b.twofold(deep-1, 0))
		}
	}
	return b.inner(l...)
}

// build is a space of n pages with the tree that was built, in a pool of so many frames; just enough pages are left.
func (b *builder) build(t *testing.T, n, frames int) *space.Space {
	t.Helper()
	d, s := bare(t, n, 250)
	takeAll(t, s, enough)
	plant(t, s, b.pages)
	settle(t, s.Pool())
	return open(t, over(t, d, n, frames))
}

// withBody is the key whose body has so many bytes, of which there is one.
func withBody(all map[string]string, size int) string {
	for k, b := range all {
		if len(b) == size {
			return k
		}
	}
	return ""
}

// behind is a key of 40 bytes just behind another one.
func behind(key string) string { return key[:39] + "\x7f" }

// wantPairs asks that a tree that was built has such pairs, and none of its inner nodes one Kid; it tells how deep the tree is.
func wantPairs(t *testing.T, x *tree.Tree, s *space.Space, need map[string]string) int {
	t.Helper()
	settle(t, s.Pool())
	l := look(t, s, x.Root())
	if l.thin > 0 || !maps.Equal(l.pairs, need) {
		t.Fatalf("%d inner nodes with one Kid, or other pairs", l.thin)
	}
	if keys, pages, e := x.Check(); e != api.OK || keys != len(need) || !slices.Equal(pages, l.pages) {
		t.Fatalf("Check: %d keys, %d pages, error %d; not %d, %d", keys, len(pages), e, len(need), len(l.pages))
	}
	return l.deep
}

// A tree of as many nodes one below the other as there may be, all of which are full, gets no root above them. (Only the way to one leaf is planted.)
func TestPutThatIsTooDeep(t *testing.T) {
	for deep := 18; deep <= 20; deep++ {
		l := map[int][]byte{}
		for no := 3; no < 2+deep; no++ {
			k := string([]byte{'z' - byte(no)}) // the Keys of a node are less than those above it
			l[no] = anInner(no, cell{"", no + 1}, cell{long(k + "1"), 99}, cell{long(k + "2"), 99}, cell{long(k + "3"), 99}, cell{long(k + "4"), 99}, cell{long(k + "5"), 99})
		}
		l[2+deep] = aLeaf(2+deep, long("aa"), here(some(48)), long("ac"), here(some(48)))
		_, s := bare(t, 200, 200)
		takeAll(t, s, 100)
		plant(t, s, l)
		x := tree.At(s, 3)
		need := api.OK
		if deep == 20 {
			need = api.ErrForm
		}
		wantPut(t, x, long("ab"), some(48), need)
		if (x.Root() == 3) != (deep == 20) {
			t.Fatalf("%d deep: the root %d", deep, x.Root())
		}
		s.Pool().Drop()
		wantGet(t, tree.At(s, 3), long("aa"), some(48))
		wantNoGet(t, tree.At(s, 3), long("ab"), api.ErrNone)
	}
}

// Of all trees that a pool has room for, the one in which a Put changes most: nine nodes, one below the other, are cut.
func TestPutThatCutsAll(t *testing.T) {
	t.Parallel()
	const n = api.MaxSectors - 3
	for way := range 6 {
		b := newBuilder(n)
		root := b.full(9, way).kid
		s := b.build(t, n, enough)
		x := tree.At(s, root)
		wantPairs(t, x, s, b.pairs)
		key := behind(withBody(b.pairs, 47))
		wantPut(t, x, key, some(4000), api.OK)
		b.pairs[key] = some(4000)
		if deep := wantPairs(t, x, s, b.pairs); deep != 10 {
			t.Fatalf("%d deep", deep)
		}
	}
}

// The deepest tree that a pool has room for, in which a Put joins all nodes one below the other: what takes less has room with its neighbour.
func TestPutThatJoinsAll(t *testing.T) {
	t.Parallel()
	const n = api.MaxSectors - 3
	b := newBuilder(n)
	root := b.twofold(11, 48).kid
	keys := slices.Sorted(maps.Keys(b.pairs))
	for _, i := range []int{0, 1, 500, 511, 512, 1022, 1023} {
		s := b.build(t, n, enough)
		x := tree.At(s, root)
		all := maps.Clone(b.pairs)
		wantPut(t, x, keys[i], some(4000), api.OK)
		all[keys[i]] = some(4000)
		if deep := wantPairs(t, x, s, all); deep != 10 {
			t.Fatalf("%d deep", deep)
		}
		for _, k := range keys[i/8*8 : i/8*8+8] { // what is below a node, and that itself
			wantDelete(t, x, k, api.OK)
			delete(all, k)
		}
		wantPairs(t, x, s, all)
	}
}

// A Put is not refused where there is just enough, whatever is put, wherever it comes, and whatever the pool's frames are.
func TestPutWithEnough(t *testing.T) {
	t.Parallel()
	for _, n := range []int{0, 1, 3, 20, 120} {
		for kind, all := range kinds(n) {
			for _, busy := range []int{0, 1, 7} { // so many pages that are fresh, and as many that are dirty
				putWithEnough(t, kind, all, busy)
			}
		}
	}
}

func putWithEnough(t *testing.T, kind string, all map[string]string, busy int) {
	t.Helper()
	d, s := bare(t, 700, 250)
	x := grow(t, s, all)
	takeAll(t, s, enough)
	settle(t, s.Pool())
	p := over(t, d, 700, enough+2*busy)
	o := open(t, p)
	for i := range busy { // pages of the tree among them
		b, _ := p.Get(i)
		p.Put(i, b)
	}
	p.Accept()
	for i := range busy {
		p.Put(699-i, plain(699-i))
	}
	for i, k := range append(slices.Sorted(maps.Keys(all)), "9") {
		if i%5 != len(all)%5 {
			continue
		}
		for _, key := range []string{k, k[:len(k)-1] + "!", (k + "#")[:min(len(k)+1, 40)]} {
			for _, size := range []int{0, 48, 4000} {
				y := tree.At(o, x.Root())
				if e := y.Put(key, []byte(some(size))); e != api.OK {
					t.Fatalf("%s: Put(%q) of %d bytes: error %d; %d are left", kind, key, size, e, left(t, o))
				}
				wantGet(t, y, key, some(size))
				p.Drop()
				for i := range busy {
					p.Put(699-i, plain(699-i))
				}
			}
		}
	}
}

// brief is a Kid below a short Key.
func brief(c cell, n int) cell { return cell{c.key[:n], c.kid} }

// wide is a node with six leaves, each of one key: it is full.
func (b *builder) wide() cell {
	return b.inner(b.leaf(0), b.leaf(0), b.leaf(0), b.leaf(0), b.leaf(0), b.leaf(0))
}

// unevens are trees in which a node that has two Kids stands beside full ones; its Keys are short, theirs are long, so that the node above has less room, or none, when they share. Each is told with the key that is to be deleted.
func unevens(n int) map[string]func() (b *builder, root int, key string) {
	// narrow is a node with two Kids; the first one's key is the one.
	narrow := func(b *builder) cell { return b.inner(b.leaf(47), b.leaf(0)) }
	return map[string]func() (*builder, int, string){
		"the first Kid, and room": func() (*builder, int, string) {
			b := newBuilder(n)
			root := b.inner(narrow(b), brief(b.wide(), 6))
			return b, root.kid, withBody(b.pairs, 47)
		},
		"the first Kid, and no room": func() (*builder, int, string) {
			b := newBuilder(n)
			l := []cell{narrow(b), brief(b.wide(), 6), b.twofold(2, 0), b.twofold(2, 0), b.twofold(2, 0), b.twofold(2, 0), brief(b.twofold(2, 0), 28)}
			return b, b.inner(l...).kid, withBody(b.pairs, 47)
		},
		"the last Kid, and no room": func() (*builder, int, string) {
			b := newBuilder(n)
			l := []cell{b.twofold(2, 0), b.twofold(2, 0), b.twofold(2, 0), b.twofold(2, 0), brief(b.twofold(2, 0), 28), b.wide(), brief(narrow(b), 6)}
			return b, b.inner(l...).kid, withBody(b.pairs, 47)
		},
		"a Kid between two, and no room": func() (*builder, int, string) {
			b := newBuilder(n)
			l := []cell{b.twofold(2, 0), b.twofold(2, 0), b.twofold(2, 0), b.wide(), brief(narrow(b), 6), brief(b.wide(), 6), brief(b.twofold(2, 0), 33)}
			return b, b.inner(l...).kid, withBody(b.pairs, 47)
		},
		"two levels without room": func() (*builder, int, string) {
			b := newBuilder(n)
			l := []cell{narrow(b), brief(b.wide(), 6), b.twofold(2, 0), b.twofold(2, 0), b.twofold(2, 0), b.twofold(2, 0), brief(b.twofold(2, 0), 28)}
			m := []cell{b.inner(l...), b.twofold(3, 0), b.twofold(3, 0), b.twofold(3, 0), b.twofold(3, 0), b.twofold(3, 0)}
			return b, b.inner(m...).kid, withBody(b.pairs, 47)
		},
	}
}

// A node of which one Kid alone is left gets some of its neighbour's; with few pages left, or none, a Delete is not refused for that.
func TestDeleteThatSharesKids(t *testing.T) {
	const n = 400
	for what, build := range unevens(n) {
		for _, few := range []int{0, 1, 2, 10, 20, 21, 22, 40} {
			b, root, key := build()
			s := b.build(t, n, 250)
			takeAll(t, s, few)
			settle(t, s.Pool())
			x := tree.At(s, root)
			all := b.pairs
			wantTree(t, x, s, all)
			wantDelete(t, x, key, api.OK)
			delete(all, key)
			l := wantTree(t, x, s, all)
			if few == enough && l.thin > 0 {
				t.Fatalf("%s: %d inner nodes with one Kid", what, l.thin)
			}
			// All others are deleted in some order, and put again.
			for i, k := range orders(slices.Sorted(maps.Keys(all)))["from the middle"] {
				wantDelete(t, x, k, api.OK)
				delete(all, k)
				if i%3 == 0 {
					wantTree(t, x, s, all)
				}
			}
			if l = wantTree(t, x, s, nil); len(l.pages) != 1 {
				t.Fatalf("%s: a tree without a key has the pages %v", what, l.pages)
			}
		}
	}
}
