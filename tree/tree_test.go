package tree_test

import (
	"maps"
	"slices"
	"strconv"
	"strings"
	"testing"

	"tabulary/api"
	"tabulary/space"
	"tabulary/tree"
)

// The chapter's example.
func TestExample(t *testing.T) {
	_, s := bare(t, 30, 30)
	x := begin(t, s)
	body := some(60)
	wantPut(t, x, "b", "x", api.OK)
	wantPut(t, x, "a", body, api.OK)
	wantGet(t, x, "a", body)
	l, e := x.Scan("", "", 9)
	if e != api.OK || len(l) != 2 || l[0].Key != "a" || string(l[0].Body) != body || l[1].Key != "b" || string(l[1].Body) != "x" {
		t.Fatalf("Scan: %v, error %d", l, e)
	}
	keys, pages, e := x.Check()
	if e != api.OK || keys != 2 || !slices.Equal(pages, []int{1, 2}) {
		t.Fatalf("Check: %d, %v, error %d", keys, pages, e)
	}
	wantDelete(t, x, "a", api.OK)
	keys, pages, e = x.Check()
	if e != api.OK || keys != 1 || !slices.Equal(pages, []int{1}) {
		t.Fatalf("Check: %d, %v, error %d", keys, pages, e)
	}
	wantAlone(t, x, s, map[string]string{"b": "x"})
}

// noSpaces are what is nil, or no call made; noTrees likewise.
func noSpaces() []*space.Space { return []*space.Space{nil, {}, new(space.Space)} }

func noTrees() []*tree.Tree { return []*tree.Tree{nil, {}, new(tree.Tree), tree.At(nil, 7)} }

// P15.1

func TestNew(t *testing.T) {
	for _, n := range []int{2, 10, 1921, 4000} {
		_, s := bare(t, n, 5)
		p, maps := s.Pool(), s.Maps()
		if n == maps {
			continue
		}
		x := begin(t, s)
		if x.Root() != maps || !slices.Equal(taken(t, s), []int{maps}) {
			t.Fatalf("the root %d of a space with %d maps; %v are taken", x.Root(), maps, taken(t, s))
		}
		if b := page(t, s, maps); !slices.Equal(b, aLeaf(maps)) {
			t.Fatalf("the root's page: %v", b)
		}
		if !slices.Equal(p.Fresh(), []int{0, maps}) && !slices.Equal(p.Fresh(), []int{1, maps}) {
			t.Fatalf("%v are fresh", p.Fresh())
		}
		wantAlone(t, x, s, nil)
		p.Drop()
		if len(taken(t, s)) != 0 {
			t.Fatal("what is dropped is taken")
		}
	}
}

// The least page is the root, and each tree has one of its own.
func TestNewTakesTheLeastPage(t *testing.T) {
	_, s := bare(t, 20, 20)
	takeAll(t, s, 0)
	for _, no := range []int{4, 7, 11} {
		s.Free(no)
	}
	for _, no := range []int{4, 7, 11} {
		x := begin(t, s)
		if x.Root() != no {
			t.Fatalf("the root %d, not %d", x.Root(), no)
		}
		wantTree(t, x, s, nil)
	}
	ask := still(t, s)
	if x, e := tree.New(s); x != nil || e != api.ErrFull {
		t.Fatalf("New: error %d", e)
	}
	ask()
}

func TestNewRefuses(t *testing.T) {
	for _, s := range noSpaces() {
		if x, e := tree.New(s); x != nil || e != api.ErrNil {
			t.Fatalf("New: error %d", e)
		}
	}
	// No frame for the map; none for the root: it is not taken then.
	for frames := 1; frames < 3; frames++ {
		d, _ := bare(t, 9, 9)
		p := over(t, d, 9, frames)
		s := open(t, p)
		p.Put(8, plain(8))
		if frames == 2 {
			p.Put(7, plain(7))
			p.Accept()
		}
		ask := still(t, s)
		if x, e := tree.New(s); x != nil || e != api.ErrBusy {
			t.Fatalf("New with %d frames: error %d", frames, e)
		}
		ask()
	}
	for _, other := range []bool{false, true} {
		d, _ := bare(t, 9, 9)
		p := over(t, d, 9, 2)
		s := open(t, p)
		if other {
			p.Put(8, plain(8))
			p.Accept()
		} else {
			p = over(t, d, 9, 1)
			s = open(t, p)
		}
		before := left(t, s)
		if x, e := tree.New(s); x != nil || e != api.ErrBusy {
			t.Fatalf("New: error %d", e)
		}
		if left(t, s) != before || len(taken(t, s)) != 0 {
			t.Fatal("a page stays taken")
		}
		p.Drop()
		if left(t, s) != before {
			t.Fatal("a page stays taken")
		}
	}
	// What the map refuses.
	d, s := bare(t, 9, 9)
	d.Spoil(d.Size()-9, 9, 77)
	s2, _ := space.Format(over(t, d, 9, 2))
	s2.Pool().Drop()
	if x, e := tree.New(s2); x != nil || e != api.ErrSum {
		t.Fatalf("New: error %d", e)
	}
	s.Pool().Put(0, plain(0))
	if x, e := tree.New(s); x != nil || e != api.ErrForm {
		t.Fatalf("New: error %d", e)
	}
	d.Cut(0)
	if x, e := tree.New(s2); x != nil || e != api.ErrDown {
		t.Fatalf("New: error %d", e)
	}
}

func wantNoOpen(t *testing.T, s *space.Space, root int, need api.Errno) {
	t.Helper()
	if x, e := tree.Open(s, root); x != nil || e != need {
		t.Fatalf("Open(%d): error %d, not %d", root, e, need)
	}
}

func TestOpen(t *testing.T) {
	_, s := bare(t, 30, 30)
	x := begin(t, s)
	wantPut(t, x, "a", some(60), api.OK)
	wantPut(t, x, "b", "x", api.OK)
	all := map[string]string{"a": some(60), "b": "x"}
	ask := still(t, s)
	o, e := tree.Open(s, x.Root())
	if e != api.OK || o.Root() != x.Root() {
		t.Fatalf("Open: error %d", e)
	}
	wantAlone(t, o, s, all)
	wantNoOpen(t, s, 0, api.ErrForm)    // a map
	wantNoOpen(t, s, 2, api.ErrForm)    // a blob
	wantNoOpen(t, s, 3, api.ErrSum)     // free, and never written
	for _, no := range farNumbers(30) { // no page
		wantNoOpen(t, s, no, api.ErrInvalid)
	}
	for _, none := range noSpaces() {
		for _, no := range []int{0, 1, -1, 99} {
			wantNoOpen(t, none, no, api.ErrNil)
		}
	}
	ask()
	o.Put("c", []byte("y")) // both go on
	all["c"] = "y"
	wantTree(t, x, s, all)
	wantTree(t, o, s, all)
}

// What is a node is opened, whatever is below it.
func TestOpenAsksTheRootAlone(t *testing.T) {
	p := strings.Repeat("k", 41)
	for what, x := range map[string]struct {
		b []byte
		e api.Errno
	}{
		"a leaf":                {aLeaf(3, "a", here("x")), api.OK},
		"an empty leaf":         {aLeaf(3), api.OK},
		"a leaf of any Vals":    {aLeaf(3, "a", "", "b", "\x02", "c", "\x01xx"), api.OK},
		"a leaf of no key":      {aLeaf(3, "", here("x")), api.OK},
		"an inner node":         {anInner(3, cell{"", 3}, cell{"a", 0}, cell{"b", 1<<31 - 1}), api.OK},
		"one Kid":               {anInner(3, cell{"", 9}), api.OK},
		"no Kid":                {anInner(3), api.ErrForm},
		"another first Key":     {anInner(3, cell{"a", 9}), api.ErrForm},
		"Keys that do not rise": {aLeaf(3, "b", here(""), "a", here("")), api.ErrForm},
		"a Key twice":           {aLeaf(3, "b", here(""), "b", here("")), api.ErrForm},
		"a Key of 41 bytes":     {aLeaf(3, p, here("")), api.ErrForm},
		"a Val of 50 bytes":     {aLeaf(3, "a", here(some(49))), api.ErrForm},
		"another kind":          {byWords(3, 7), api.ErrForm},
		"a plain page":          {plain(3), api.ErrForm},
		"a blob":                {aBlob("abc", 3)[3], api.ErrForm},
		"a byte too many":       {byWords(3, 5, "\x01a\x01\x00x"), api.ErrForm},
	} {
		s := planted(t, 6, 6, map[int][]byte{3: x.b})
		o, e := tree.Open(s, 3)
		if e != x.e || (o == nil) == (e == api.OK) || o.Root() != map[bool]int{true: 3}[e == api.OK] {
			t.Errorf("Open of %s: error %d, not %d", what, e, x.e)
		}
	}
}

func TestOpenRefusesWhatGetDoes(t *testing.T) {
	d, s := bare(t, 9, 9)
	x := begin(t, s)
	settle(t, s.Pool())
	root := x.Root()
	for frames := 1; frames < 3; frames++ {
		p := over(t, d, 9, frames)
		o := open(t, p)
		for no := 9 - frames; no < 9; no++ {
			p.Put(no, plain(no))
		}
		wantNoOpen(t, o, root, api.ErrBusy)
		wantNoOpen(t, o, 8, api.ErrForm) // it is held
	}
	o := open(t, over(t, d, 9, 1))
	if _, e := tree.Open(o, root); e != api.OK {
		t.Fatalf("Open with one frame: error %d", e)
	}
	d.Spoil(d.Size()-9+root, 20, 9)
	wantNoOpen(t, open(t, over(t, d, 9, 2)), root, api.ErrSum)
	d.Write(d.Size()-9+root, sealed(aLeaf(root+1)))
	wantNoOpen(t, open(t, over(t, d, 9, 2)), root, api.ErrStale)
	o = open(t, over(t, d, 9, 2))
	d.Cut(0)
	wantNoOpen(t, o, root, api.ErrDown)
	if _, e := tree.Open(s, root); e != api.OK { // it is held there
		t.Fatalf("Open: error %d", e)
	}
}

// At reads nothing, and tells any root.
func TestAt(t *testing.T) {
	d, s := bare(t, 9, 9)
	x := begin(t, s)
	wantPut(t, x, "a", "b", api.OK)
	settle(t, s.Pool())
	p := over(t, d, 9, 3)
	o, _ := space.Format(p)
	p.Drop()
	d.Cut(0)
	for _, no := range append(farNumbers(9), 0, 1, 5, 8) {
		a := tree.At(o, no)
		if a == nil || a.Root() != no || len(p.Held()) != 0 {
			t.Fatalf("At(%d): %v are held", no, p.Held())
		}
	}
	for _, none := range noSpaces() {
		if tree.At(none, 1) != nil {
			t.Fatal("At without a space")
		}
	}
	wantAlone(t, tree.At(s, x.Root()), s, map[string]string{"a": "b"})
}

// Calls of a tree with a root that is none.
func TestAtWhatIsNoNode(t *testing.T) {
	_, s := bare(t, 12, 12)
	x := begin(t, s)
	wantPut(t, x, "a", some(100), api.OK) // the blob is the page 2
	p := s.Pool()
	no, _ := s.Alloc() // taken, and never written
	settle(t, p)
	need := map[int]api.Errno{0: api.ErrForm, 2: api.ErrForm, no: api.ErrSum, no + 1: api.ErrSum}
	for _, far := range farNumbers(12) {
		need[far] = api.ErrInvalid
	}
	ask := still(t, s)
	for root, e := range need {
		a := tree.At(s, root)
		for _, key := range []string{"a", "zz", long("k")} {
			wantNoGet(t, a, key, e)
			wantPut(t, a, key, "x", e)
			wantPut(t, a, key, some(4000), e)
			wantDelete(t, a, key, e)
		}
		wantNoScan(t, a, "", "", 5, e)
		if root == no {
			wantNoCheck(t, a, api.ErrSum)
		} else { // no tree: a map, a blob, or none that is taken
			wantNoCheck(t, a, api.ErrForm)
		}
		if a.Root() != root {
			t.Fatalf("the root %d, not %d", a.Root(), root)
		}
		ask()
	}
}

func TestNoTree(t *testing.T) {
	for _, x := range noTrees() {
		if x.Root() != 0 {
			t.Fatalf("Root: %d", x.Root())
		}
		for _, key := range []string{"", "a", strings.Repeat("k", 41)} {
			wantNoGet(t, x, key, api.ErrNil)
			wantPut(t, x, key, "", api.ErrNil)
			wantPut(t, x, key, some(4001), api.ErrNil)
			wantDelete(t, x, key, api.ErrNil)
			for _, most := range []int{0, 1, -1} {
				wantNoScan(t, x, key, "", most, api.ErrNil)
			}
		}
		wantNoCheck(t, x, api.ErrNil)
	}
}

// The root is another page when the tree grows, and when it shrinks; else it stays.
func TestRoot(t *testing.T) {
	_, s := bare(t, 600, 200)
	x := begin(t, s)
	all := map[string]string{}
	deep, roots := 1, map[int]int{}
	roots[1] = x.Root()
	for i := range 300 {
		k := long(strconv.Itoa(1000 + i))
		was := x.Root()
		wantPut(t, x, k, some(30), api.OK)
		all[k] = some(30)
		l := look(t, s, x.Root())
		if (l.deep != deep) != (x.Root() != was) || l.deep < deep {
			t.Fatalf("%d deep behind %d, the root %d behind %d", l.deep, deep, x.Root(), was)
		}
		deep = l.deep
	}
	if deep < 5 {
		t.Fatalf("%d deep: too few to tell", deep)
	}
	wantAlone(t, x, s, all)
	settle(t, s.Pool())
	for _, k := range slices.Sorted(maps.Keys(all)) {
		was := x.Root()
		wantDelete(t, x, k, api.OK)
		delete(all, k)
		l := look(t, s, x.Root())
		if (l.deep != deep) != (x.Root() != was) || l.deep > deep {
			t.Fatalf("%d deep behind %d, the root %d behind %d", l.deep, deep, x.Root(), was)
		}
		deep = l.deep
		settle(t, s.Pool())
	}
	if deep != 1 {
		t.Fatalf("%d deep", deep)
	}
	wantAlone(t, x, s, nil)
}

// P15.2

func TestKeys(t *testing.T) {
	_, s := bare(t, 60, 60)
	x := begin(t, s)
	all := map[string]string{}
	for _, k := range []string{"a", "\x00", "\xff", "\x00\x00", "a\x00", "a\xff", "\x7f", "\x80", strings.Repeat("k", 40), strings.Repeat("k", 39), strings.Repeat("\xff", 40), strings.Repeat("\x00", 40), "Z", "é", "日本"} {
		wantNoGet(t, x, k, api.ErrNone)
		wantDelete(t, x, k, api.ErrNone)
		wantPut(t, x, k, "of "+k, api.OK)
		all[k] = "of " + k
		wantAlone(t, x, s, all)
	}
	ask := still(t, s)
	for _, k := range []string{"", strings.Repeat("k", 41), strings.Repeat("\x00", 41), some(4000)} {
		wantNoGet(t, x, k, api.ErrInvalid)
		wantPut(t, x, k, "x", api.ErrInvalid)
		wantPut(t, x, k, some(4001), api.ErrInvalid) // ahead of ErrBig
		wantDelete(t, x, k, api.ErrInvalid)
	}
	for _, k := range []string{"b", "a\x00\x00", "\x00\x00\x00", "\xfe", "aa", strings.Repeat("k", 38)} { // not there
		wantNoGet(t, x, k, api.ErrNone)
		wantDelete(t, x, k, api.ErrNone)
		wantPut(t, x, k, some(4001), api.ErrBig)
	}
	for k := range all {
		wantPut(t, x, k, some(4001), api.ErrBig)
	}
	ask()
	wantAlone(t, x, s, all)
	for _, k := range slices.Sorted(maps.Keys(all)) {
		wantDelete(t, x, k, api.OK)
		delete(all, k)
		wantNoGet(t, x, k, api.ErrNone)
		wantDelete(t, x, k, api.ErrNone)
		wantAlone(t, x, s, all)
	}
}

// sizes are how many bytes bodies have, at the edges.
func sizes() []int { return []int{0, 1, 2, 47, 48, 49, 50, 100, 234, 235, 472, 473, 3999, 4000} }

// Bodies of all lengths, put anew with longer and with shorter ones.
func TestBodies(t *testing.T) {
	_, s := bare(t, 60, 60)
	x := begin(t, s)
	for _, k := range []string{"a", long("k")} {
		for _, n := range sizes() {
			for _, m := range sizes() {
				wantPut(t, x, k, some(n), api.OK)
				l := wantAlone(t, x, s, map[string]string{k: some(n)})
				if pages := 1 + blobPages(n); len(l.pages) != pages {
					t.Fatalf("%d bytes: the pages %v", n, l.pages)
				}
				wantPut(t, x, k, some(m), api.OK)
				wantAlone(t, x, s, map[string]string{k: some(m)})
				wantPut(t, x, k, strings.Repeat("\x00", m), api.OK)
				wantAlone(t, x, s, map[string]string{k: strings.Repeat("\x00", m)})
				settle(t, s.Pool())
			}
		}
		wantDelete(t, x, k, api.OK)
		wantAlone(t, x, s, nil)
	}
}

// blobPages are how many pages the blob of a body has: none, if it has none.
func blobPages(n int) int {
	if n <= 48 {
		return 0
	}
	pages := 1
	for n -= 234; n > 0; n -= 238 {
		pages++
	}
	return pages
}

// Where a body stands: up to 48 bytes in its leaf, more in a blob.
func TestVals(t *testing.T) {
	for n := range 300 {
		_, s := bare(t, 9, 9)
		x := begin(t, s)
		wantPut(t, x, "key", some(n), api.OK)
		need := aLeaf(1, "key", here(some(min(n, 48))))
		if n > 48 {
			need = aLeaf(1, "key", there(2))
		}
		if b := page(t, s, 1); !slices.Equal(b, need) {
			t.Fatalf("%d bytes: %v, not %v", n, b, need)
		}
		if n > 48 {
			for no, need := range aBlob(some(n), []int{2, 3}[:blobPages(n)]...) {
				if b := page(t, s, no); !slices.Equal(b, need) {
					t.Fatalf("%d bytes: the page %d is %v, not %v", n, no, b, need)
				}
			}
		}
		wantAlone(t, x, s, map[string]string{"key": some(n)})
	}
}

func TestBodyOfNoByte(t *testing.T) {
	_, s := bare(t, 9, 9)
	x := begin(t, s)
	for _, b := range [][]byte{nil, {}, []byte("spare")[:0]} {
		if e := x.Put("a", b); e != api.OK {
			t.Fatalf("Put: error %d", e)
		}
		wantAlone(t, x, s, map[string]string{"a": ""})
	}
}

// orders are ways to put keys: rising, falling, from both ends, from the middle, and in no order.
func orders(keys []string) map[string][]string {
	rising := slices.Sorted(slices.Values(keys))
	falling := slices.Clone(rising)
	slices.Reverse(falling)
	var ends, none []string
	for i := range rising {
		if i%2 == 0 {
			ends = append(ends, rising[i/2])
		} else {
			ends = append(ends, rising[len(rising)-1-i/2])
		}
		none = append(none, rising[i*37%len(rising)])
	}
	middle := slices.Clone(ends)
	slices.Reverse(middle)
	return map[string][]string{"rising": rising, "falling": falling, "from both ends": ends, "from the middle": middle, "in no order": none}
}

// kinds are keys of several lengths, and bodies: so many.
func kinds(n int) map[string]map[string]string {
	l := map[string]map[string]string{"short": {}, "long": {}, "of all lengths": {}, "with blobs": {}, "without bodies": {}}
	for i := range n {
		s := strconv.Itoa(10000 + i)
		l["short"][s] = "x"
		l["long"][long(s)] = some(48)
		l["of all lengths"][s+strings.Repeat("+", i*7%36)] = some(i * 11 % 49)
		l["with blobs"][s+strings.Repeat("-", i*5%36)] = some(i % 5 * 20 * (i % 7))
		l["without bodies"][s+strings.Repeat("=", i*3%36)] = ""
	}
	return l
}

// Keys that are put and deleted in all orders, of trees of one leaf, of two levels and of more.
func TestOrders(t *testing.T) {
	t.Parallel()
	deepest := 0
	for _, n := range []int{1, 2, 3, 5, 9, 29, 101} {
		for kind, pairs := range kinds(n) {
			keys := slices.Sorted(maps.Keys(pairs))
			for put, l := range orders(keys) {
				_, s := bare(t, 900, 200)
				x := begin(t, s)
				all := map[string]string{}
				for _, k := range l {
					wantPut(t, x, k, pairs[k], api.OK)
					all[k] = pairs[k]
					wantGet(t, x, k, pairs[k])
					settle(t, s.Pool())
				}
				deepest = max(deepest, wantAlone(t, x, s, all).deep)
				settle(t, s.Pool())
				roots, pages := x.Root(), len(taken(t, s))
				for gone, m := range orders(keys) {
					for i, k := range m {
						wantDelete(t, x, k, api.OK)
						delete(all, k)
						wantDelete(t, x, k, api.ErrNone)
						if i%9 == 0 {
							wantAlone(t, x, s, all)
						}
					}
					wantAlone(t, x, s, nil)
					s.Pool().Drop()
					x = tree.At(s, roots)
					all = maps.Clone(pairs)
					if len(taken(t, s)) != pages {
						t.Fatalf("%s, %s, %s: %d pages, not %d", kind, put, gone, len(taken(t, s)), pages)
					}
				}
				wantAlone(t, x, s, all)
			}
		}
	}
	if deepest < 4 {
		t.Errorf("%d deep: too few to tell", deepest)
	}
}

// Each key of a tree is deleted alone, the first and the last one of each leaf among them.
func TestDeleteOfEachKey(t *testing.T) {
	for _, pairs := range kinds(60) {
		_, s := bare(t, 900, 200)
		x := grow(t, s, pairs)
		settle(t, s.Pool())
		root := x.Root()
		for k := range pairs {
			x = tree.At(s, root)
			wantDelete(t, x, k, api.OK)
			all := maps.Clone(pairs)
			delete(all, k)
			wantAlone(t, x, s, all)
			s.Pool().Drop()
		}
		wantAlone(t, tree.At(s, root), s, pairs)
	}
}

// A key is put between each two of a tree, ahead of all and behind all.
func TestPutBetweenEachTwo(t *testing.T) {
	t.Parallel()
	for _, pairs := range kinds(60) {
		_, s := bare(t, 900, 200)
		x := grow(t, s, pairs)
		settle(t, s.Pool())
		root := x.Root()
		l := []string{"\x00", "\xff"}
		for k := range pairs {
			l = append(l, (k + "\x00")[:min(len(k)+1, 40)], k[:len(k)-1], k)
		}
		for _, k := range l {
			for _, body := range []string{"", some(48), some(70)} {
				x = tree.At(s, root)
				wantPut(t, x, k, body, api.OK)
				all := maps.Clone(pairs)
				all[k] = body
				wantAlone(t, x, s, all)
				s.Pool().Drop()
			}
		}
		wantAlone(t, tree.At(s, root), s, pairs)
	}
}

// Nodes that are just full: a leaf of 244 bytes, and of one more.
func TestJustFullLeaf(t *testing.T) {
	for body := range 49 {
		_, s := bare(t, 30, 30)
		x := begin(t, s)
		all := map[string]string{}
		for _, k := range []string{"a", "b", "c"} { // 6 bytes a cell, and the body
			wantPut(t, x, k, some(48), api.OK)
			all[k] = some(48)
		}
		wantPut(t, x, "d", some(body), api.OK)
		all["d"] = some(body)
		taken := 3*(6+48) + 6 + body
		wantPut(t, x, "e", some(20), api.OK)
		all["e"] = some(20)
		pages := 1
		if taken+26 > 244 {
			pages = 3
		}
		if l := wantAlone(t, x, s, all); len(l.pages) != pages {
			t.Fatalf("%d bytes: the pages %v", taken+26, l.pages)
		}
	}
}

// An inner node of 244 bytes, and of one more: it gets a Key of each length, behind six that take 203 bytes.
func TestJustFullInner(t *testing.T) {
	for size := 6; size <= 40; size++ {
		second := "h" + strings.Repeat("~", size-1)
		all := map[string]string{long("g"): some(48), second: some(48)}
		l := []cell{{"", 4}}
		planted := pages(aLeaf(4, "a", here("x")), aLeaf(9, long("g"), here(some(48)), second, here(some(48))))
		all["a"] = "x"
		for i, k := range []string{long("b"), long("c"), long("d"), long("e")} {
			planted[5+i] = aLeaf(5+i, k, here("x"))
			l = append(l, cell{k, 5 + i})
			all[k] = "x"
		}
		planted[3] = anInner(3, append(l, cell{"f", 9})...)
		_, s := bare(t, 60, 60)
		for range 9 {
			s.Alloc()
		}
		plant(t, s, planted)
		x := tree.At(s, 3)
		wantTree(t, x, s, all)
		wantPut(t, x, long("i"), some(48), api.OK) // the leaf is cut ahead of the second key
		all[long("i")] = some(48)
		deep := 2
		if 203+7+size > 244 {
			deep = 3
		}
		if found := wantTree(t, x, s, all); found.deep != deep {
			t.Fatalf("a Key of %d bytes: %d deep", size, found.deep)
		}
	}
}

// Keys that are put anew with what takes more or less, so that leaves are cut and joined.
func TestPutAnew(t *testing.T) {
	for _, n := range []int{2, 3, 4, 7, 30, 90} {
		_, s := bare(t, 2000, 200)
		x := begin(t, s)
		all := map[string]string{}
		put := func(i, size int) {
			k := strconv.Itoa(1000+i) + strings.Repeat("k", i%30)
			wantPut(t, x, k, some(size), api.OK)
			all[k] = some(size)
		}
		for round, size := range []int{0, 48, 0, 49, 3, 300, 48, 1, 60, 0, 48} {
			for i := range n {
				put((i*7+round)%n, size)
				if i%5 == 0 {
					wantAlone(t, x, s, all)
				}
			}
			l := wantAlone(t, x, s, all)
			if size == 0 && n < 8 && l.deep > 1 {
				t.Fatalf("%d keys without bodies: %d deep", n, l.deep)
			}
			settle(t, s.Pool())
		}
	}
}
