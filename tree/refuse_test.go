package tree_test

import (
	"maps"
	"slices"
	"strconv"
	"strings"
	"testing"

	"tabulary/api"
	"tabulary/disk"
	"tabulary/space"
	"tabulary/tree"
)

// change is a Put, or a Delete where there is no body.
type change struct {
	key, body string
	isPut     bool
}

func (c change) made(x *tree.Tree) api.Errno {
	if c.isPut {
		return x.Put(c.key, []byte(c.body))
	}
	return x.Delete(c.key)
}

// on is what pairs are behind the change.
func (c change) on(all map[string]string) map[string]string {
	now := maps.Clone(all)
	delete(now, c.key)
	if c.isPut {
		now[c.key] = c.body
	}
	return now
}

// someTree is a tree whose leaves are about full, with some blobs, which is settled; and changes of it that can be made.
func someTree(t *testing.T, n, pagesLeft int) (*disk.Disk, *space.Space, int, map[string]string, []change) {
	t.Helper()
	all := map[string]string{}
	for i := range 26 {
		all[long(strconv.Itoa(100+i))] = some(i % 7 * 20)
	}
	d, s := bare(t, n, 250)
	x := grow(t, s, all)
	takeAll(t, s, pagesLeft)
	settle(t, s.Pool())
	keys := slices.Sorted(maps.Keys(all))
	var l []change
	for _, i := range []int{0, 1, 7, 12, 24, 25} {
		for _, size := range []int{0, 48, 300, 4000} {
			l = append(l, change{keys[i], some(size), true}, change{behind(keys[i]), some(size), true})
		}
		l = append(l, change{key: keys[i]})
	}
	return d, s, x.Root(), all, l
}

// wantBefore asks that what was refused is as if it had not been asked for, when the pool has dropped it.
func wantBefore(t *testing.T, s *space.Space, x *tree.Tree, root int, all map[string]string) {
	t.Helper()
	if x.Root() != root {
		t.Fatalf("the root %d, not %d", x.Root(), root)
	}
	s.Pool().Drop()
	o, e := tree.Open(s, root)
	if e != api.OK {
		t.Fatalf("Open: error %d", e)
	}
	wantTree(t, o, s, all)
}

// A change of a leaf that is neither cut nor joined is one of that leaf's page alone; its neighbours are read, and stay.
func TestChangesPutNoMore(t *testing.T) {
	var l [][]byte
	all := map[string]string{}
	cells := []cell{{"", 4}, {"b", 5}, {"c", 6}}
	for i, begin := range []string{"a", "b", "c"} {
		first, second := long(begin+"1"), long(begin+"2")
		all[first], all[second] = some(48), some(48)
		l = append(l, aLeaf(4+i, first, here(some(48)), second, here(some(48))))
	}
	s := planted(t, 9, 9, pages(append(l, anInner(3, cells...))...))
	for k := range all {
		x := tree.At(s, 3)
		wantPut(t, x, k, some(45), api.OK)
		fresh := s.Pool().Fresh()
		if len(fresh) != 1 || !strings.Contains(string(page(t, s, fresh[0])), k) {
			t.Fatalf("%v are fresh", fresh)
		}
		s.Pool().Drop()
	}
	wantTree(t, tree.At(s, 3), s, all)
}

// A space with too few pages: a Put is made, or refused, and the tree is there as before.
func TestChangesWithFewPages(t *testing.T) {
	t.Parallel()
	full := 0
	for few := range 41 {
		_, s, root, all, l := someTree(t, 250, few)
		for _, c := range l {
			x := tree.At(s, root)
			switch e := c.made(x); {
			case e == api.OK:
				wantTree(t, x, s, c.on(all))
				s.Pool().Drop()
			case e == api.ErrFull && c.isPut && few < enough:
				full++
				wantBefore(t, s, x, root, all)
			default:
				t.Fatalf("%d pages left: error %d of %v", few, e, c.isPut)
			}
		}
	}
	if full < 100 {
		t.Fatalf("%d were refused: too few to tell", full)
	}
}

// A pool with too few frames, likewise.
func TestChangesWithFewFrames(t *testing.T) {
	t.Parallel()
	busy := 0
	first, _, root, all, l := someTree(t, 250, 60)
	for frames := 1; frames <= enough; frames++ {
		for _, c := range l {
			d, e := first.Lose(api.Loss{Torn: -1})
			if e != api.OK {
				t.Fatalf("Lose: error %d", e)
			}
			p := over(t, d, 250, frames)
			s := open(t, p)
			x := tree.At(s, root)
			switch e := c.made(x); {
			case e == api.OK:
				settle(t, p)
				wantTree(t, x, s, c.on(all))
			case e == api.ErrBusy && frames < enough:
				busy++
				wantBefore(t, s, x, root, all)
			default:
				t.Fatalf("%d frames: error %d", frames, e)
			}
		}
	}
	if busy < 100 {
		t.Fatalf("%d were refused: too few to tell", busy)
	}
}

// A page of the tree that may not be read: what is refused for that has changed nothing, as all is read first.
func TestChangesOfSpoiltPages(t *testing.T) {
	d, s, root, all, l := someTree(t, 250, 60)
	refused := 0
	for _, no := range look(t, s, root).pages {
		p := over(t, d, 250, 250)
		o := open(t, p)
		back := flip(t, d, 250, no)
		for _, c := range l {
			x := tree.At(o, root)
			switch e := c.made(x); {
			case e == api.OK:
				wantChanged(t, x, c)
				p.Drop()
			case e == api.ErrSum:
				refused++
				if len(p.Fresh()) > 0 || x.Root() != root {
					t.Fatalf("%v are fresh, the root %d", p.Fresh(), x.Root())
				}
			default:
				t.Fatalf("the page %d: error %d", no, e)
			}
		}
		back()
		wantTree(t, tree.At(o, root), o, all)
	}
	if refused < 100 {
		t.Fatalf("%d were refused: too few to tell", refused)
	}
}

func wantChanged(t *testing.T, x *tree.Tree, c change) {
	t.Helper()
	if c.isPut {
		wantGet(t, x, c.key, c.body)
		return
	}
	wantNoGet(t, x, c.key, api.ErrNone)
}

// With the power off, what is held is changed still, and what is not is refused.
func TestChangesWithoutPower(t *testing.T) {
	first, s, root, _, l := someTree(t, 250, 60)
	nos := look(t, s, root).pages
	for n := 0; n <= len(nos); n += 3 {
		for _, c := range l {
			d, _ := first.Lose(api.Loss{Torn: -1})
			p := over(t, d, 250, 250)
			x := tree.At(open(t, p), root)
			for _, no := range nos[:n] {
				p.Get(no)
			}
			d.Cut(0)
			switch e := c.made(x); {
			case e == api.OK && n > 0:
				wantChanged(t, x, c)
			case e == api.ErrDown && n < len(nos):
				if len(p.Fresh()) > 0 || x.Root() != root {
					t.Fatalf("%v are fresh, the root %d", p.Fresh(), x.Root())
				}
			default:
				t.Fatalf("%d pages are held: error %d", n, e)
			}
		}
	}
}

// A page that the space has not taken may not be freed: that is refused while nothing has changed. (It may be taken for another one, too: what comes of that is not asked.)
func TestChangesOfPagesThatAreNotTaken(t *testing.T) {
	_, s, root, all, l := someTree(t, 250, 60)
	refused := 0
	for _, no := range look(t, s, root).pages {
		if e := s.Free(no); e != api.OK {
			t.Fatalf("Free: error %d", e)
		}
		settle(t, s.Pool())
		for _, c := range l {
			x := tree.At(s, root)
			switch e := c.made(x); e {
			case api.OK:
				s.Pool().Drop()
			case api.ErrNone:
				refused++
				if len(s.Pool().Fresh()) > 0 || x.Root() != root {
					t.Fatalf("%v are fresh, the root %d", s.Pool().Fresh(), x.Root())
				}
			default:
				t.Fatalf("the page %d: error %d", no, e)
			}
		}
		if again, e := s.Alloc(); e != api.OK || again != no {
			t.Fatalf("Alloc: %d, error %d", again, e)
		}
	}
	if refused < 10 {
		t.Fatalf("%d were refused: too few to tell", refused)
	}
	wantTree(t, tree.At(s, root), s, all)
}

// What is refused by ErrNil, ErrInvalid, ErrBig or ErrNone changes nothing; what changes nothing puts nothing.
func TestChangesThatChangeNothing(t *testing.T) {
	_, s, root, all, _ := someTree(t, 250, 60)
	ask := still(t, s)
	x := tree.At(s, root)
	for k, b := range all {
		wantPut(t, x, k, some(4001), api.ErrBig)
		wantPut(t, x, k+"k", b, api.ErrInvalid)
		wantDelete(t, x, k+"k", api.ErrInvalid)
		wantDelete(t, x, behind(k), api.ErrNone)
		if len(b) <= 48 {
			wantPut(t, x, k, b, api.OK)
		}
	}
	ask()
	if x.Root() != root {
		t.Fatalf("the root %d, not %d", x.Root(), root)
	}
	wantTree(t, x, s, all)
}
