package tree_test

import (
	"maps"
	"slices"
	"strconv"
	"testing"

	"tabulary/api"
	"tabulary/disk"
	"tabulary/space"
	"tabulary/tree"
)

// P15.4

// Check tells keys and pages, and changes nothing.
func TestCheck(t *testing.T) {
	for _, n := range []int{0, 1, 2, 3, 10, 80} {
		for kind, all := range kinds(n) {
			_, s := bare(t, 900, 200)
			x := grow(t, s, all)
			ask := still(t, s)
			l := look(t, s, x.Root())
			for range 2 {
				keys, pages, e := x.Check()
				if e != api.OK || keys != n || !slices.Equal(pages, l.pages) {
					t.Fatalf("%s: %d keys, %v, error %d; not %d, %v", kind, keys, pages, e, n, l.pages)
				}
			}
			ask()
		}
	}
}

// planting is pages put by hand, of which the page 3 is a tree's root, and what calls are to answer; the space has 60 pages, all of which are taken.
type planting struct {
	pages map[int][]byte
	check api.Errno
	scan  api.Errno            // of all
	keys  map[string]api.Errno // what Get and Delete answer of each
}

func joined(l ...map[int][]byte) map[int][]byte {
	all := map[int][]byte{}
	for _, m := range l {
		maps.Copy(all, m)
	}
	return all
}

func pages(l ...[]byte) map[int][]byte {
	all := map[int][]byte{}
	for _, b := range l {
		all[number(string(b))] = b
	}
	return all
}

const (
	ok   = api.OK
	none = api.ErrNone
	form = api.ErrForm
)

// chain is so many nodes one below the other, from the page 3 on; the last one is a leaf with the key a.
func chain(n int) map[int][]byte {
	all := pages(aLeaf(2+n, "a", here("x")))
	for no := 3; no < 2+n; no++ {
		all[no] = anInner(no, cell{"", no + 1})
	}
	return all
}

// plantings are trees, and what is none.
func plantings() map[string]planting {
	x := here("x")
	a, n := aLeaf(5, "a", x), aLeaf(6, "n", x)
	both := anInner(3, cell{"", 5}, cell{"m", 6})
	body := some(600) // of three pages
	return map[string]planting{
		"a tree":               {pages(both, a, n), ok, ok, map[string]api.Errno{"a": ok, "n": ok, "b": none, "m": none, "z": none}},
		"an inner node alone":  {pages(anInner(3, cell{"", 5}), a), ok, ok, map[string]api.Errno{"a": ok, "b": none}},
		"a leaf without a key": {pages(both, aLeaf(5), n), ok, ok, map[string]api.Errno{"n": ok, "a": none}},
		"a blob":               {joined(pages(aLeaf(3, "a", x, "b", there(7))), aBlob(body, 7, 9, 8)), ok, ok, map[string]api.Errno{"a": ok, "b": ok}},
		"20 nodes":             {chain(20), ok, ok, map[string]api.Errno{"a": ok, "b": none}},
		// Nodes that lead to themselves, or too deep.
		"21 nodes":                   {chain(21), form, form, map[string]api.Errno{"a": form, "b": form}},
		"50 nodes":                   {chain(50), form, form, map[string]api.Errno{"a": form, "b": form}},
		"its own Kid":                {pages(anInner(3, cell{"", 3})), form, form, map[string]api.Errno{"a": form}},
		"its own Kids":               {pages(anInner(3, cell{"", 3}, cell{"b", 3}, cell{"m", 3}, cell{"n", 3})), form, form, map[string]api.Errno{"a": form, "b": form, "c": form, "m": form, "z": form}},
		"its own last Kid":           {pages(anInner(3, cell{"", 5}, cell{"m", 3}), a), form, form, map[string]api.Errno{"a": ok, "b": none, "m": form, "z": form}},
		"its own first Kid":          {pages(anInner(3, cell{"", 3}, cell{"m", 6}), n), form, form, map[string]api.Errno{"a": form, "n": ok, "o": none}},
		"an ancestor":                {pages(anInner(3, cell{"", 4}), anInner(4, cell{"", 5}, cell{"m", 3}), a), form, form, map[string]api.Errno{"a": ok, "b": none, "m": form}},
		"an ancestor of an ancestor": {pages(anInner(3, cell{"", 4}), anInner(4, cell{"", 7}), anInner(7, cell{"", 3}, cell{"b", 5})), form, form, map[string]api.Errno{"a": form}},
		// A page that is reached twice.
		"a leaf twice":                     {pages(anInner(3, cell{"", 5}, cell{"m", 5}), a), form, form, map[string]api.Errno{"a": ok, "m": none, "b": none}},
		"a leaf without a key twice":       {pages(anInner(3, cell{"", 5}, cell{"m", 5}), aLeaf(5)), form, ok, map[string]api.Errno{"a": none}},
		"an inner node twice":              {pages(anInner(3, cell{"", 4}, cell{"m", 4}), anInner(4, cell{"", 5}), aLeaf(5)), form, ok, map[string]api.Errno{"a": none}},
		"an inner node twice, with a leaf": {pages(anInner(3, cell{"", 4}, cell{"m", 4}), anInner(4, cell{"", 5}), aLeaf(5, "a", x)), form, form, map[string]api.Errno{"a": ok, "b": none, "n": none}},
		"a blob twice":                     {joined(pages(aLeaf(3, "a", there(7), "b", there(7))), aBlob(body, 7, 9, 8)), form, ok, map[string]api.Errno{"a": ok, "b": ok}},
		"a page of two blobs":              {joined(pages(aLeaf(3, "a", there(7), "b", there(10))), aBlob(some(400), 7, 9), aBlob(some(400), 10, 9)), form, ok, map[string]api.Errno{"a": ok, "b": ok}},
		"a blob of two leaves":             {joined(pages(both, aLeaf(5, "a", there(7)), aLeaf(6, "n", there(7))), aBlob(some(60), 7)), form, ok, map[string]api.Errno{"a": ok, "n": ok}},
		// Leaves that lie at different depths.
		"the last leaf deeper":  {pages(anInner(3, cell{"", 5}, cell{"m", 4}), a, anInner(4, cell{"", 6}), n), form, ok, map[string]api.Errno{"a": ok, "n": ok, "b": none}},
		"the first leaf deeper": {pages(anInner(3, cell{"", 4}, cell{"m", 6}), a, anInner(4, cell{"", 5}), n), form, ok, map[string]api.Errno{"a": ok, "n": ok, "z": none}},
		// Keys out of order. What is not there is told ahead of that.
		"a greater key below the first Kid":                    {pages(both, aLeaf(5, "a", x, "z", x), n), form, form, map[string]api.Errno{"a": form, "b": none, "n": ok, "z": none}},
		"a lesser key below the last Kid":                      {pages(both, a, aLeaf(6, "b", x, "n", x)), form, form, map[string]api.Errno{"a": ok, "b": none, "n": form, "z": none}},
		"the next Key below the first Kid":                     {pages(both, aLeaf(5, "a", x, "m", x), n), form, form, map[string]api.Errno{"a": form, "m": none}},
		"the Key itself below the last Kid":                    {pages(both, a, aLeaf(6, "m", x, "n", x)), ok, ok, map[string]api.Errno{"a": ok, "m": ok, "n": ok}},
		"a Key out of order, two below":                        {pages(anInner(3, cell{"", 4}, cell{"m", 6}), anInner(4, cell{"", 5}, cell{"p", 7}), a, aLeaf(7, "q", x), anInner(6, cell{"", 8}), aLeaf(8, "n", x)), form, form, map[string]api.Errno{"a": form, "b": none, "q": none, "n": ok}},
		"a Key ahead of its bound, two below":                  {pages(anInner(3, cell{"", 4}, cell{"m", 6}), anInner(4, cell{"", 5}), a, anInner(6, cell{"", 8}, cell{"b", 9}), aLeaf(8), aLeaf(9, "n", x)), form, form, map[string]api.Errno{"a": ok, "n": form, "z": none}},
		"a leaf's key of no byte":                              {pages(aLeaf(3, "", x, "a", x)), form, form, map[string]api.Errno{"a": form, "b": none}},
		"a leaf that is ill, with a blob that was not written": {pages(both, aLeaf(5, "a", there(40), "z", x), n), form, api.ErrSum, map[string]api.Errno{"a": api.ErrSum, "b": none}},
		// What is no node.
		"a root that is none":        {pages(plain(3)), form, form, map[string]api.Errno{"a": form}},
		"a root that is a blob":      {aBlob(body, 3, 4, 5), form, form, map[string]api.Errno{"a": form}},
		"a first Kid that is none":   {pages(both, plain(5), n), form, form, map[string]api.Errno{"a": form, "n": ok, "z": none}},
		"a last Kid that is none":    {pages(both, a, byWords(6, 6, "\x00")), form, form, map[string]api.Errno{"a": ok, "n": form}},
		"a Kid that is a blob":       {joined(pages(both, a), aBlob(body, 6, 7, 8)), form, form, map[string]api.Errno{"a": ok, "n": form}},
		"a Kid that is a map":        {pages(anInner(3, cell{"", 0}, cell{"m", 6}), n), form, form, map[string]api.Errno{"a": form, "n": ok}},
		"a Kid that is no page":      {pages(anInner(3, cell{"", 60}, cell{"m", 6}), n), form, api.ErrInvalid, map[string]api.Errno{"a": api.ErrInvalid, "n": ok}},
		"a Kid far from all pages":   {pages(anInner(3, cell{"", 1<<31 - 1}, cell{"m", 6}), n), form, api.ErrInvalid, map[string]api.Errno{"a": api.ErrInvalid, "n": ok}},
		"a Kid that was not written": {pages(anInner(3, cell{"", 40}, cell{"m", 6}), n), api.ErrSum, api.ErrSum, map[string]api.Errno{"a": api.ErrSum, "n": ok}},
		"a root that was not":        {nil, api.ErrSum, api.ErrSum, map[string]api.Errno{"a": api.ErrSum}},
		// Of several faults, ErrForm, wherever it stands.
		"a Kid that was not written ahead of what is none":  {pages(anInner(3, cell{"", 40}, cell{"m", 6}), plain(6)), form, api.ErrSum, map[string]api.Errno{"a": api.ErrSum, "n": form}},
		"a Kid that was not written behind what is none":    {pages(anInner(3, cell{"", 5}, cell{"m", 40}), plain(5)), form, form, map[string]api.Errno{"a": form, "n": api.ErrSum}},
		"a Kid that was not written, and a Val":             {pages(anInner(3, cell{"", 40}, cell{"m", 6}), aLeaf(6, "n", "\x02")), form, api.ErrSum, map[string]api.Errno{"n": form, "z": none}},
		"two Kids that were not written":                    {pages(anInner(3, cell{"", 40}, cell{"m", 41}, cell{"n", 6}), n), api.ErrSum, api.ErrSum, map[string]api.Errno{"a": api.ErrSum, "m": api.ErrSum, "n": ok}},
		"a Kid that was not written, twice":                 {pages(anInner(3, cell{"", 40}, cell{"m", 40}), n), form, api.ErrSum, map[string]api.Errno{"a": api.ErrSum}},
		"a Kid that was not written, below one that is ill": {pages(both, anInner(5, cell{"", 40}, cell{"z", 41}), n), form, api.ErrSum, map[string]api.Errno{"a": api.ErrSum, "n": ok}},
	}
}

// vals are Vals that may be none, of the key b in a leaf, with a blob of 600 bytes from the page 7 on, and one of 48 from the page 10 on.
func vals() map[string]api.Errno {
	return map[string]api.Errno{
		here(""):               ok,
		here("x"):              ok,
		here(some(48)):         ok,
		here("\x00\x01"):       ok,
		there(7):               ok,
		"":                     form,
		"\x01":                 form,
		"\x01\x00\x00\x07":     form,
		there(7) + "\x00":      form,
		"\x02":                 form,
		"\x02\x00\x00\x00\x07": form,
		"\xff" + some(30):      form,
		"\x01" + some(48):      form,
		there(3):               form, // the leaf itself
		there(0):               form, // a map
		there(9):               form, // within a blob
		there(10):              form, // it would stand in the leaf
		there(11):              form, // no blob
		there(40):              api.ErrSum,
		there(60):              api.ErrInvalid,
		there(1<<31 - 1):       api.ErrInvalid,
		there(1 << 31):         api.ErrInvalid,
		there(1<<32 - 1):       api.ErrInvalid,
	}
}

func allPlantings() map[string]planting {
	all := plantings()
	for val, e := range vals() {
		p := joined(pages(aLeaf(3, "a", here("x"), "b", val, "c", here("y")), plain(11)), aBlob(some(600), 7, 8, 9), aBlob(some(48), 10))
		check := e
		if e != ok {
			check = form // a blob that may not be read
		}
		all["the Val "+strconv.Quote(val)] = planting{p, check, e, map[string]api.Errno{"a": ok, "b": e, "c": ok, "aa": none, "d": none}}
	}
	return all
}

func TestPlantings(t *testing.T) {
	for what, p := range allPlantings() {
		t.Run(what, func(t *testing.T) {
			s := planted(t, 60, 60, p.pages)
			x := tree.At(s, 3)
			ask := still(t, s)
			keys, nos, e := x.Check()
			if e != p.check || e != ok && (keys != 0 || len(nos) != 0) {
				t.Errorf("Check: %d, %v, error %d, not %d", keys, nos, e, p.check)
			}
			if l, e := x.Scan("", "", 99); e != p.scan || e != ok && len(l) != 0 {
				t.Errorf("Scan: %v, error %d, not %d", l, e, p.scan)
			}
			for k, need := range p.keys {
				if b, e := x.Get(k); e != need || e != ok && b != nil {
					t.Errorf("Get(%q): %v, error %d, not %d", k, b, e, need)
				}
			}
			ask()
			plantedDeletes(t, s, p)
			plantedPuts(t, s, p)
		})
	}
}

// plantedDeletes asks for each Delete alone: one that is refused changes nothing.
func plantedDeletes(t *testing.T, s *space.Space, p planting) {
	t.Helper()
	for k, need := range p.keys {
		x := tree.At(s, 3)
		ask := still(t, s)
		if e := x.Delete(k); e != need && !(need == ok && p.check != ok) { // of what is no tree, a neighbour may be refused, or what is freed
			t.Errorf("Delete(%q): error %d, not %d", k, e, need)
		} else if e != ok {
			ask()
			if x.Root() != 3 {
				t.Errorf("Delete(%q): the root %d", k, x.Root())
			}
		}
		s.Pool().Drop()
	}
}

// plantedPuts asks for each Put alone: where a Get of the key is OK or ErrNone, all that a Put needs is there.
func plantedPuts(t *testing.T, s *space.Space, p planting) {
	t.Helper()
	for k, need := range p.keys {
		for _, body := range []string{"", some(10)} {
			x := tree.At(s, 3)
			ask := still(t, s)
			e := x.Put(k, []byte(body))
			switch {
			case need == none && p.check != ok: // the key may have no place
				if e != ok && e != form {
					t.Errorf("Put(%q): error %d", k, e)
				}
			case need == none || need == ok && p.check == ok:
				if e != ok {
					t.Errorf("Put(%q): error %d", k, e)
				}
			case need != ok && e != need:
				t.Errorf("Put(%q): error %d, not %d", k, e, need)
			}
			if e != ok {
				ask()
			} else {
				wantGet(t, x, k, body)
			}
			s.Pool().Drop()
		}
	}
}

// A Delete by which a node would be joined with its own ancestor: that is told, and nothing changes.
func TestDeleteBesideAnAncestor(t *testing.T) {
	x := here("x")
	s := planted(t, 20, 20, pages(
		anInner(3, cell{"", 4}, cell{"m", 5}), anInner(4, cell{"", 9}), aLeaf(9, "a", x),
		anInner(5, cell{"", 3}, cell{"q", 6}), anInner(6, cell{"", 7}, cell{"t", 8}), aLeaf(7, "r", x), aLeaf(8, "u", x)))
	o := tree.At(s, 3)
	ask := still(t, s)
	for _, k := range []string{"r", "u"} {
		wantGet(t, o, k, "x")
		wantDelete(t, o, k, api.ErrForm)
		wantDelete(t, o, k+"!", api.ErrNone)
	}
	wantNoCheck(t, o, api.ErrForm)
	wantNoScan(t, o, "", "", 9, api.ErrForm)
	ask()
}

// A Delete by which a leaf is not needed any more, which stands below another node, too.
func TestDeleteOfALeafThatIsThereTwice(t *testing.T) {
	x := here("x")
	s := planted(t, 20, 20, pages(anInner(3, cell{"", 5}, cell{"m", 6}), anInner(5, cell{"", 9}), anInner(6, cell{"", 9}), aLeaf(9, "a", x)))
	o := tree.At(s, 3)
	ask := still(t, s)
	wantGet(t, o, "a", "x")
	wantDelete(t, o, "a", api.ErrForm)
	wantNoCheck(t, o, api.ErrForm)
	if o.Root() != 3 {
		t.Fatalf("the root %d", o.Root())
	}
	ask()
}

// A page that the space has not taken: a node's, or a blob's.
func TestCheckAsksTheSpace(t *testing.T) {
	all := map[string]string{}
	for i := range 30 {
		all[long(strconv.Itoa(100+i))] = some(i * 20)
	}
	_, s := bare(t, 300, 250)
	x := grow(t, s, all)
	settle(t, s.Pool())
	l := wantAlone(t, x, s, all)
	for _, no := range l.pages {
		if e := s.Free(no); e != api.OK {
			t.Fatalf("Free: error %d", e)
		}
		wantNoCheck(t, x, api.ErrForm)
		wantScan(t, x, "", "", 99, all) // all others read what lies there
		s.Pool().Drop()
	}
	s.Alloc() // another one's page is none of the tree's
	wantTree(t, x, s, all)
}

// reopened is a tree of a disk's last n pages, in so many frames that hold nothing but its map.
func reopened(t *testing.T, d *disk.Disk, n, frames, root int) *tree.Tree {
	t.Helper()
	return tree.At(open(t, over(t, d, n, frames)), root)
}

// flip changes a byte of a disk's last n pages, and changes it back.
func flip(t *testing.T, d *disk.Disk, n, no int) (back func()) {
	t.Helper()
	at := d.Size() - n + no
	b, e := d.Read(at)
	if e != api.OK {
		t.Fatalf("Read: error %d", e)
	}
	d.Spoil(at, 77, b[77]+1)
	return func() { d.Spoil(at, 77, b[77]) }
}

// Each page of a tree that may not be read: a node's is refused as the pool does, a blob's makes it none.
func TestCheckOfSpoiltPages(t *testing.T) {
	all := map[string]string{}
	for i := range 30 {
		all[long(strconv.Itoa(100+i))] = some(i * 20)
	}
	d, s := bare(t, 300, 250)
	x := grow(t, s, all)
	settle(t, s.Pool())
	for _, no := range look(t, s, x.Root()).pages {
		need := api.ErrSum
		if page(t, s, no)[4] == 4 {
			need = api.ErrForm
		}
		o := reopened(t, d, 300, 9, x.Root())
		back := flip(t, d, 300, no)
		wantNoCheck(t, o, need)
		wantNoScan(t, o, "", "", 99, api.ErrSum)
		back()
		wantScan(t, o, "", "", 99, all)
		if keys, _, e := o.Check(); e != api.OK || keys != 30 {
			t.Fatalf("Check: %d keys, error %d", keys, e)
		}
	}
}

// Of two pages that may not be read, the first one's refusal is told.
func TestCheckTellsTheFirst(t *testing.T) {
	for _, stale := range []int{5, 6} {
		d, s := bare(t, 9, 9)
		takeAll(t, s, 0)
		plant(t, s, pages(anInner(3, cell{"", 5}, cell{"m", 6})))
		d.Write(d.Size()-9+stale, sealed(aLeaf(7, "a", here("x")))) // the other one was not written
		need := map[int]api.Errno{5: api.ErrStale, 6: api.ErrSum}[stale]
		wantNoCheck(t, reopened(t, d, 9, 9, 3), need)
		wantNoScan(t, reopened(t, d, 9, 9, 3), "", "", 9, need)
	}
}

// A map that may not be read is refused so, but where the tree is none, whatever is taken.
func TestCheckOfSpoiltMap(t *testing.T) {
	pair := aLeaf(5, "a", here("x"))
	for need, p := range map[api.Errno]map[int][]byte{
		api.ErrSum:  pages(anInner(3, cell{"", 5}, cell{"m", 6}), pair, aLeaf(6, "n", here("y"))),
		api.ErrForm: pages(anInner(3, cell{"", 5}, cell{"m", 6}), pair, aLeaf(6, "b", here("y"))),
	} {
		d, s := bare(t, 9, 9)
		takeAll(t, s, 0)
		plant(t, s, p)
		o := reopened(t, d, 9, 1, 3)
		o.Get("a") // the map is given up
		back := flip(t, d, 9, 0)
		wantNoCheck(t, o, need)
		back()
		if keys, _, e := o.Check(); need == api.ErrSum && (e != api.OK || keys != 2) {
			t.Fatalf("Check: %d keys, error %d", keys, e)
		}
	}
}

// With the power off, or without a frame, it is not known whether a blob may be read; what is held is read still.
func TestCheckWithoutPower(t *testing.T) {
	d, s := bare(t, 30, 30)
	x := begin(t, s)
	wantPut(t, x, "a", some(600), api.OK)
	wantPut(t, x, "b", some(60), api.OK)
	settle(t, s.Pool())
	root := x.Root()
	rest := taken(t, s)[1:]
	for n := range len(rest) + 1 {
		own, e := d.Lose(api.Loss{Torn: -1})
		if e != api.OK {
			t.Fatalf("Lose: error %d", e)
		}
		p := over(t, own, 30, 9)
		o := tree.At(open(t, p), root)
		for _, no := range append([]int{root}, rest[:n]...) {
			p.Get(no)
		}
		own.Cut(0)
		if n < len(rest) {
			wantNoCheck(t, o, api.ErrDown)
			continue
		}
		if keys, _, e := o.Check(); e != api.OK || keys != 2 {
			t.Fatalf("Check: %d keys, error %d", keys, e)
		}
	}
	// Three frames, none of which is given up: two for the map and the root.
	p := over(t, d, 30, 3)
	o := tree.At(open(t, p), root)
	for _, no := range []int{0, root} {
		b, _ := p.Get(no)
		p.Put(no, b)
	}
	p.Put(29, plain(29))
	wantNoCheck(t, o, api.ErrBusy)
	p.Drop()
	if keys, _, e := o.Check(); e != api.OK || keys != 2 {
		t.Fatalf("Check: %d keys, error %d", keys, e)
	}
}
