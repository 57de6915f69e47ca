package tree_test

import (
	"bytes"
	"hash/crc32"
	"maps"
	"slices"
	"strings"
	"testing"

	"tabulary/api"
	"tabulary/disk"
	"tabulary/pool"
	"tabulary/space"
	"tabulary/tree"
)

// byWords is chapter 9's words, byte by byte: a page that is not sealed.
func byWords(no int, kind byte, cells ...string) []byte {
	b := append([]byte(four(no)), kind, byte(len(cells)))
	var ends, all []byte
	for _, c := range cells {
		all = append(all, c...)
		ends = append(ends, byte(len(all)>>8), byte(len(all)))
	}
	b = append(b, byte(len(all)>>8), byte(len(all)))
	b = append(append(b, ends...), all...)
	return append(b, make([]byte, 256-len(b))...)
}

// four is a number in four bytes, the highest first.
func four(n int) string { return string([]byte{byte(n >> 24), byte(n >> 16), byte(n >> 8), byte(n)}) }

// number is what four bytes are.
func number(s string) int { return int(s[0])<<24 + int(s[1])<<16 + int(s[2])<<8 + int(s[3]) }

// short is a text of less than 128 bytes, with how many it has ahead.
func short(s string) string { return string([]byte{byte(len(s))}) + s }

// sealed is a page with the sum of its first 252 bytes in the last four, the lowest first.
func sealed(b []byte) []byte {
	s := crc32.ChecksumIEEE(b[:252])
	return append(slices.Clone(b[:252]), byte(s), byte(s>>8), byte(s>>16), byte(s>>24))
}

// plain is a page of no tree.
func plain(no int) []byte { return byWords(no, 1, "plain") }

// here is the Val of a body that stands in its leaf; there is one of a blob.
func here(body string) string { return "\x00" + body }

func there(first int) string { return "\x01" + four(first) }

// aLeaf is chapter 14's words: a leaf's page, of keys and Vals.
func aLeaf(no int, pairs ...string) []byte {
	var cells []string
	for i := 0; i < len(pairs); i += 2 {
		cells = append(cells, short(pairs[i])+short(pairs[i+1]))
	}
	return byWords(no, 5, cells...)
}

// cell is one of an inner node.
type cell struct {
	key string
	kid int
}

// anInner is an inner node's page.
func anInner(no int, l ...cell) []byte {
	var cells []string
	for _, c := range l {
		cells = append(cells, short(c.key)+four(c.kid))
	}
	return byWords(no, 6, cells...)
}

// aBlob is chapter 13's words: the pages of a blob of those numbers.
func aBlob(b string, nos ...int) map[int][]byte {
	l, size := map[int][]byte{}, four(len(b))
	for i, no := range nos {
		next, most := 0, 238
		if i == 0 {
			most = 234
		}
		if i+1 < len(nos) {
			next = nos[i+1]
		}
		share := b[:min(most, len(b))]
		l[no], b, size = byWords(no, 4, four(next)+size+share), b[len(share):], ""
	}
	return l
}

// cellsOf are the cells of a page.
func cellsOf(b []byte) []string {
	var l []string
	n, begin := int(b[5]), 0
	for i := range n {
		end := int(b[8+2*i])<<8 + int(b[9+2*i])
		l = append(l, string(b[8+2*n:][begin:end]))
		begin = end
	}
	return l
}

// some are bytes, of which no two sizes begin alike.
func some(n int) string {
	b := make([]byte, n)
	for i := range b {
		b[i] = byte(i*7+i/250+n) | 1
	}
	return string(b)
}

// long is a key of 40 bytes.
func long(s string) string { return s + strings.Repeat("~", 40-len(s)) }

// upTo are the numbers from 0 on, ahead of n.
func upTo(n int) []int { return from(0, n) }

// from are the numbers from one on, ahead of another one.
func from(first, end int) []int {
	var l []int
	for no := first; no < end; no++ {
		l = append(l, no)
	}
	return l
}

// sorted are numbers of several lists.
func sorted(lists ...[]int) []int {
	l := slices.Concat(lists...)
	slices.Sort(l)
	return l
}

// over is a pool that holds nothing, of a disk's last n pages.
func over(t *testing.T, d *disk.Disk, n, frames int) *pool.Pool {
	t.Helper()
	p, e := pool.Open(d, d.Size()-n, n, frames)
	if e != api.OK {
		t.Fatalf("Open of a pool: error %d", e)
	}
	return p
}

// open is the space that stands in a pool.
func open(t *testing.T, p *pool.Pool) *space.Space {
	t.Helper()
	s, e := space.Open(p)
	if e != api.OK {
		t.Fatalf("Open of a space: error %d", e)
	}
	return s
}

// bare is a space of n pages, all but its maps of which are left; its maps are settled.
func bare(t *testing.T, n, frames int) (*disk.Disk, *space.Space) {
	t.Helper()
	d, e := disk.New(min(n+3, api.MaxSectors))
	if e != api.OK {
		t.Fatalf("New of a disk: error %d", e)
	}
	p := over(t, d, n, max(frames, 3))
	s, e := space.Format(p)
	if e != api.OK {
		t.Fatalf("Format: error %d", e)
	}
	settle(t, p)
	if frames < 3 {
		s = open(t, over(t, d, n, frames))
	}
	return d, s
}

// settle accepts and flushes.
func settle(t *testing.T, p *pool.Pool) {
	t.Helper()
	p.Accept()
	if e := p.Flush(); e != api.OK {
		t.Fatalf("Flush: error %d", e)
	}
}

// left tells how many pages of a space are.
func left(t *testing.T, s *space.Space) int {
	t.Helper()
	n, e := s.Left()
	if e != api.OK {
		t.Fatalf("Left: error %d", e)
	}
	return n
}

// takeAll takes pages till so many are left.
func takeAll(t *testing.T, s *space.Space, most int) {
	t.Helper()
	for left(t, s) > most {
		if _, e := s.Alloc(); e != api.OK {
			t.Fatalf("Alloc: error %d", e)
		}
	}
}

// taken are the pages of a space that are taken, but its maps.
func taken(t *testing.T, s *space.Space) []int {
	t.Helper()
	l, e := s.Taken()
	if e != api.OK {
		t.Fatalf("Taken: error %d", e)
	}
	return l[s.Maps():]
}

// planted is a space of n pages, all of which are taken, with some pages put by hand; all is settled.
func planted(t *testing.T, n, frames int, pages map[int][]byte) *space.Space {
	t.Helper()
	_, s := bare(t, n, frames)
	takeAll(t, s, 0)
	settle(t, s.Pool())
	plant(t, s, pages)
	return s
}

// plant puts pages by hand.
func plant(t *testing.T, s *space.Space, pages map[int][]byte) {
	t.Helper()
	for _, no := range slices.Sorted(maps.Keys(pages)) {
		if e := s.Pool().Put(no, pages[no]); e != api.OK {
			t.Fatalf("Put(%d): error %d", no, e)
		}
		settle(t, s.Pool())
	}
}

// farNumbers are numbers that no page has, of a pool of n.
func farNumbers(n int) []int {
	const most = 1<<63 - 1
	return []int{-1, n, -2, n + 1, -n, 1<<31 - 1, 1 << 31, -1 << 31, 1 << 32, 1<<32 + 1, most, -most - 1}
}

// page is a page of a pool.
func page(t *testing.T, s *space.Space, no int) []byte {
	t.Helper()
	b, e := s.Pool().Get(no)
	if e != api.OK {
		t.Fatalf("the page %d: error %d", no, e)
	}
	return b
}

// seen is what lies in a tree's pages, by the chapter's words.
type seen struct {
	t     *testing.T
	s     *space.Space
	pairs map[string]string
	pages []int
	deep  int // how many nodes stand one below the other
	inner int // how many inner nodes there are
	thin  int // how many of them have one Kid
}

// look goes through the pages of a tree that the package made.
func look(t *testing.T, s *space.Space, root int) *seen {
	t.Helper()
	l := &seen{t: t, s: s, pairs: map[string]string{}}
	l.node(root, 1, "", "")
	slices.Sort(l.pages)
	if len(slices.Compact(slices.Clone(l.pages))) != len(l.pages) {
		t.Fatalf("a page is there twice: %v", l.pages)
	}
	return l
}

// node goes through the node of a page, which has keys from one on, and below another one.
func (l *seen) node(no, deep int, low, high string) {
	l.t.Helper()
	l.pages = append(l.pages, no)
	b := page(l.t, l.s, no)
	cells := cellsOf(b)
	switch {
	case b[4] != 5 && b[4] != 6:
		l.t.Fatalf("the page %d is of the kind %d", no, b[4])
	case deep > 20:
		l.t.Fatal("there are more than 20 nodes one below the other")
	case len(cells) == 0 && deep > 1:
		l.t.Fatalf("the node %d has no cell, and is no root", no)
	case b[4] == 6 && len(cells) < 2 && deep == 1:
		l.t.Fatal("the inner root has one Kid")
	}
	if b[4] == 5 {
		l.leaf(cells, deep, low, high)
		return
	}
	l.inner++
	if len(cells) == 1 {
		l.thin++
	}
	for i, c := range cells {
		key := c[1 : 1+int(c[0])]
		from, to := key, high
		if i == 0 {
			if key != "" {
				l.t.Fatalf("the inner node %d begins with %q", no, key)
			}
			from = low
		}
		if i+1 < len(cells) {
			to = cells[i+1][1 : 1+int(cells[i+1][0])]
		}
		if from < low || to != "" && to <= from {
			l.t.Fatalf("the inner node %d has %q up to %q, within %q and %q", no, from, to, low, high)
		}
		l.node(number(c[1+len(key):]), deep+1, from, to)
	}
}

func (l *seen) leaf(cells []string, deep int, low, high string) {
	l.t.Helper()
	if l.deep == 0 {
		l.deep = deep
	}
	if l.deep != deep {
		l.t.Fatalf("leaves lie %d and %d deep", l.deep, deep)
	}
	last := ""
	for _, c := range cells {
		key := c[1 : 1+int(c[0])]
		val := c[2+len(key):]
		if key <= last || len(key) > 40 || key < low || high != "" && key >= high {
			l.t.Fatalf("the key %q stands behind %q, within %q and %q", key, last, low, high)
		}
		last = key
		switch {
		case len(val) != int(c[1+len(key)]):
			l.t.Fatalf("the Val of %q has %d bytes", key, len(val))
		case val[0] == 0:
			l.pairs[key] = val[1:]
		case val[0] == 1 && len(val) == 5:
			l.pairs[key] = l.blob(number(val[1:]))
		default:
			l.t.Fatalf("the Val of %q is %q", key, val)
		}
	}
}

func (l *seen) blob(no int) string {
	l.t.Helper()
	all, size, first := "", 0, true
	for no != 0 {
		l.pages = append(l.pages, no)
		b := page(l.t, l.s, no)
		cells := cellsOf(b)
		if b[4] != 4 || len(cells) != 1 {
			l.t.Fatalf("the page %d is no blob's", no)
		}
		c := cells[0]
		no, c = number(c), c[4:]
		if first {
			size, c, first = number(c), c[4:], false
		}
		all += c
	}
	if len(all) != size || size < 49 {
		l.t.Fatalf("a blob of %d bytes has %d", size, len(all))
	}
	return all
}

// wantTree asks that a tree has such pairs: by its pages, by Check, by Scan, and by Get.
func wantTree(t *testing.T, x *tree.Tree, s *space.Space, need map[string]string) *seen {
	t.Helper()
	l := look(t, s, x.Root())
	if !maps.Equal(l.pairs, need) {
		t.Fatalf("the pages have %d pairs, not %d; or others", len(l.pairs), len(need))
	}
	keys, pages, e := x.Check()
	if e != api.OK || keys != len(need) || !slices.Equal(pages, l.pages) {
		t.Fatalf("Check: %d, %v, error %d; not %d, %v", keys, pages, e, len(need), l.pages)
	}
	if len(need) == 0 && len(pages) != 1 {
		t.Fatalf("a tree without a key has the pages %v", pages)
	}
	wantScan(t, x, "", "", len(need)+1, need)
	for k, b := range need {
		wantGet(t, x, k, b)
	}
	return l
}

// wantAlone asks that a tree has such pairs, and that the space has taken its pages and nothing else.
func wantAlone(t *testing.T, x *tree.Tree, s *space.Space, need map[string]string) *seen {
	t.Helper()
	l := wantTree(t, x, s, need)
	if got := taken(t, s); !slices.Equal(got, l.pages) {
		t.Fatalf("%v are taken, not %v", got, l.pages)
	}
	return l
}

// wantScan asks for the first most of the pairs of a stretch.
func wantScan(t *testing.T, x *tree.Tree, from, to string, most int, all map[string]string) {
	t.Helper()
	var need []string
	for _, k := range slices.Sorted(maps.Keys(all)) {
		if k >= from && (to == "" || k < to) && len(need) < most {
			need = append(need, k)
		}
	}
	l, e := x.Scan(from, to, most)
	if e != api.OK || len(l) != len(need) {
		t.Fatalf("Scan(%q, %q, %d): %d pairs, error %d, not %d", from, to, most, len(l), e, len(need))
	}
	for i, k := range need {
		if l[i].Key != k || string(l[i].Body) != all[k] {
			t.Fatalf("Scan(%q, %q, %d): %q at %d, not %q", from, to, most, l[i].Key, i, k)
		}
	}
}

func wantNoScan(t *testing.T, x *tree.Tree, from, to string, most int, need api.Errno) {
	t.Helper()
	if l, e := x.Scan(from, to, most); e != need || len(l) != 0 {
		t.Fatalf("Scan(%q, %q, %d): %v, error %d, not %d", from, to, most, l, e, need)
	}
}

func wantGet(t *testing.T, x *tree.Tree, key, need string) {
	t.Helper()
	if b, e := x.Get(key); e != api.OK || string(b) != need {
		t.Fatalf("Get(%q): %d bytes, error %d, not %d bytes", key, len(b), e, len(need))
	}
}

func wantNoGet(t *testing.T, x *tree.Tree, key string, need api.Errno) {
	t.Helper()
	if b, e := x.Get(key); e != need || len(b) != 0 {
		t.Fatalf("Get(%q): %v, error %d, not %d", key, b, e, need)
	}
}

func wantPut(t *testing.T, x *tree.Tree, key, body string, need api.Errno) {
	t.Helper()
	if e := x.Put(key, []byte(body)); e != need {
		t.Fatalf("Put(%q) of %d bytes: error %d, not %d", key, len(body), e, need)
	}
}

func wantDelete(t *testing.T, x *tree.Tree, key string, need api.Errno) {
	t.Helper()
	if e := x.Delete(key); e != need {
		t.Fatalf("Delete(%q): error %d, not %d", key, e, need)
	}
}

func wantNoCheck(t *testing.T, x *tree.Tree, need api.Errno) {
	t.Helper()
	if keys, pages, e := x.Check(); e != need || keys != 0 || len(pages) != 0 {
		t.Fatalf("Check: %d, %v, error %d, not %d", keys, pages, e, need)
	}
}

// grow is a tree of its own with such pairs, put in the order of their keys.
func grow(t *testing.T, s *space.Space, pairs map[string]string) *tree.Tree {
	t.Helper()
	x := begin(t, s)
	for _, k := range slices.Sorted(maps.Keys(pairs)) {
		wantPut(t, x, k, pairs[k], api.OK)
	}
	return x
}

// begin is a tree without a key.
func begin(t *testing.T, s *space.Space) *tree.Tree {
	t.Helper()
	x, e := tree.New(s)
	if e != api.OK {
		t.Fatalf("New: error %d", e)
	}
	return x
}

// still notes what a pool's pages are, and asks afterwards that they are so still.
func still(t *testing.T, s *space.Space) (ask func()) {
	t.Helper()
	p := s.Pool()
	state := func() ([]int, []int, map[int][]byte) {
		pages := map[int][]byte{}
		for no := range p.Count() {
			if b, e := p.Get(no); e == api.OK {
				pages[no] = b
			}
		}
		return p.Fresh(), p.Dirty(), pages
	}
	fresh, dirty, pages := state()
	return func() {
		t.Helper()
		f, d, now := state()
		if !slices.Equal(f, fresh) || !slices.Equal(d, dirty) || !maps.EqualFunc(now, pages, bytes.Equal) {
			t.Fatalf("fresh %v, dirty %v; they were %v and %v; or a page has changed", f, d, fresh, dirty)
		}
	}
}
