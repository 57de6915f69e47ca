package tree_test

import (
	"maps"
	"slices"
	"strconv"
	"strings"
	"testing"

	"tabulary/api"
	"tabulary/space"
	"tabulary/tree"
)

// P15.6

// dice are numbers in an order that looks like none, and is the same each time.
type dice uint64

func (d *dice) below(n int) int {
	*d = *d*6364136223846793005 + 1442695040888963407
	return int(uint64(*d) >> 33 % uint64(n))
}

// key is one of n, of any length; many begin alike.
func (d *dice) key(n int) string {
	i := d.below(n)
	k := strconv.Itoa(100 + i)
	switch i % 4 {
	case 0:
		return k
	case 1:
		return long(k)
	case 2:
		return long("same begin of all" + k)
	}
	return k[:1+i%3] + strings.Repeat("x", i*13%38)
}

// body is one of any length, short ones ahead.
func (d *dice) body() string {
	return some([]int{d.below(20), d.below(49), 48, d.below(60), d.below(300), d.below(4001)}[d.below(40)%6*d.below(2)])
}

// player is a tree, and what it is to have.
type player struct {
	x    *tree.Tree
	all  map[string]string
	kept map[string]string // what it had when the pool accepted last
	root int               // and its root
}

// Trees in one space, to which calls are made in turn, hold what they were given, and do not see one another; the pool drops, accepts and flushes between.
func TestTreesAsMaps(t *testing.T) {
	for round := range 12 {
		d := dice(round)
		_, s := bare(t, 2500, 256)
		players := make([]*player, 1+round%4)
		for i := range players {
			players[i] = &player{x: begin(t, s), all: map[string]string{}}
		}
		keep(t, s, players)
		keys := []int{8, 40, 150}[round%3]
		for range 1500 {
			play(t, &d, s, players, keys)
		}
		wantAll(t, s, players)
		for _, p := range players {
			for k := range p.all {
				wantDelete(t, p.x, k, api.OK)
				if d.below(20) == 0 {
					settle(t, s.Pool())
				}
			}
			wantTree(t, p.x, s, nil)
			p.all = nil
		}
		wantAll(t, s, players)
	}
}

// play makes one call of one tree, or of the pool.
func play(t *testing.T, d *dice, s *space.Space, players []*player, keys int) {
	t.Helper()
	p := players[d.below(len(players))]
	key := d.key(keys)
	_, there := p.all[key]
	switch d.below(30) {
	case 0, 1, 2, 3, 4, 5, 6, 7, 8, 9, 10, 11:
		body := d.body()
		wantPut(t, p.x, key, body, api.OK)
		p.all[key] = body
	case 12, 13, 14, 15, 16, 17, 18, 19, 20:
		if !there {
			wantDelete(t, p.x, key, api.ErrNone)
			return
		}
		wantDelete(t, p.x, key, api.OK)
		delete(p.all, key)
	case 21, 22:
		if !there {
			wantNoGet(t, p.x, key, api.ErrNone)
			return
		}
		wantGet(t, p.x, key, p.all[key])
	case 23:
		wantScan(t, p.x, key, d.key(keys), d.below(9), p.all)
	case 24:
		o, e := tree.Open(s, p.x.Root())
		if e != api.OK {
			t.Fatalf("Open: error %d", e)
		}
		p.x = o
	case 25:
		s.Pool().Drop()
		for _, p := range players {
			p.x, p.all = tree.At(s, p.root), maps.Clone(p.kept)
		}
	case 26, 27:
		keep(t, s, players)
	case 28:
		wantPut(t, p.x, key, some(4001), api.ErrBig)
	case 29:
		if d.below(6) == 0 {
			wantAll(t, s, players)
		}
	}
	if len(s.Pool().Fresh()) > 100 { // so that frames are left
		keep(t, s, players)
	}
}

// keep accepts what was put, and flushes it.
func keep(t *testing.T, s *space.Space, players []*player) {
	t.Helper()
	settle(t, s.Pool())
	for _, p := range players {
		p.kept, p.root = maps.Clone(p.all), p.x.Root()
	}
}

// wantAll asks for all pairs, and that the space has taken what Check tells, and nothing else.
func wantAll(t *testing.T, s *space.Space, players []*player) {
	t.Helper()
	var pages []int
	for _, p := range players {
		l := wantTree(t, p.x, s, p.all)
		if l.thin > 0 {
			t.Fatalf("%d inner nodes have one Kid", l.thin)
		}
		pages = append(pages, l.pages...)
	}
	slices.Sort(pages)
	if got := taken(t, s); !slices.Equal(got, pages) {
		t.Fatalf("%v are taken, not %v", got, pages)
	}
}

// Trees to which the same was put and deleted answer alike, in whichever pages they lie, and in whichever order that was done.
func TestTreesInOtherPages(t *testing.T) {
	t.Parallel()
	for kind, all := range kinds(60) {
		keys := slices.Sorted(maps.Keys(all))
		var told [][]tree.Pair
		for name, l := range orders(keys) {
			for _, hole := range []int{1, 2} { // each such page is left
				_, s := bare(t, 800, 256)
				takeAll(t, s, 0)
				for no := 1; no < 800; no += hole {
					s.Free(no)
				}
				settle(t, s.Pool())
				before := taken(t, s)
				x := begin(t, s)
				for i, k := range l {
					wantPut(t, x, k, all[k]+"more", api.OK)
					wantPut(t, x, k+"-"[:min(40-len(k), 1)], "gone", api.OK)
					if len(k) < 40 {
						wantDelete(t, x, k+"-", api.OK)
					}
					wantPut(t, x, k, all[k], api.OK)
					if i%7 == 0 {
						settle(t, s.Pool())
					}
				}
				settle(t, s.Pool())
				found := wantTree(t, x, s, all)
				if got := taken(t, s); !slices.Equal(got, sorted(before, found.pages)) {
					t.Fatalf("%s, %s: other pages are taken than those of the tree", kind, name)
				}
				pairs, e := x.Scan("", "", 99)
				if e != api.OK {
					t.Fatalf("Scan: error %d", e)
				}
				told = append(told, pairs)
			}
		}
		for _, l := range told {
			if !slices.EqualFunc(l, told[0], func(a, b tree.Pair) bool { return a.Key == b.Key && string(a.Body) == string(b.Body) }) {
				t.Fatalf("%s: two trees tell other pairs", kind)
			}
		}
	}
}

// Two trees of one space, one of which is changed: the other one's pages stay as they are.
func TestTreesApart(t *testing.T) {
	for kind, all := range kinds(40) {
		_, s := bare(t, 1200, 256)
		x := grow(t, s, all)
		settle(t, s.Pool())
		y := begin(t, s)
		before := map[int][]byte{}
		for _, no := range look(t, s, x.Root()).pages {
			before[no] = page(t, s, no)
		}
		other := map[string]string{}
		for k := range all { // the same keys, with other bodies
			wantPut(t, y, k, some(len(all[k])*3+1), api.OK)
			other[k] = some(len(all[k])*3 + 1)
			settle(t, s.Pool())
		}
		wantTree(t, y, s, other)
		for k := range all {
			wantDelete(t, y, k, api.OK)
			settle(t, s.Pool())
		}
		wantTree(t, y, s, nil)
		for no, b := range before {
			if !slices.Equal(page(t, s, no), b) {
				t.Fatalf("%s: the page %d has changed", kind, no)
			}
		}
		wantTree(t, x, s, all)
		if got := taken(t, s); !slices.Equal(got, sorted(slices.Collect(maps.Keys(before)), []int{y.Root()})) {
			t.Fatalf("%s: %v are taken", kind, got)
		}
	}
}

// A tree behind another pool, and one that is opened again, has what was put and flushed.
func TestTreeBehindAnotherPool(t *testing.T) {
	for kind, all := range kinds(50) {
		d, s := bare(t, 900, 256)
		x := grow(t, s, all)
		settle(t, s.Pool())
		o, e := tree.Open(open(t, over(t, d, 900, 50)), x.Root())
		if e != api.OK {
			t.Fatalf("%s: Open: error %d", kind, e)
		}
		wantPut(t, x, "new", "x", api.OK) // which the other one does not see
		wantNoGet(t, o, "new", api.ErrNone)
		if keys, _, e := o.Check(); e != api.OK || keys != 50 {
			t.Fatalf("%s: Check: %d keys, error %d", kind, keys, e)
		}
		wantScan(t, o, "", "", 99, all)
	}
}
