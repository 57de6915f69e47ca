package blob_test

import (
	"bytes"
	"hash/crc32"
	"math"
	"slices"
	"testing"

	"tabulary/api"
	"tabulary/blob"
	"tabulary/disk"
	"tabulary/pool"
	"tabulary/space"
)

// byWords is chapter 9's words, byte by byte: a page that is not sealed.
func byWords(no int, kind byte, cells ...string) []byte {
	b := append([]byte(four(no)), kind, byte(len(cells)))
	var ends, all []byte
	for _, c := range cells {
		all = append(all, c...)
		ends = append(ends, byte(len(all)>>8), byte(len(all)))
	}
	b = append(b, byte(len(all)>>8), byte(len(all)))
	b = append(append(b, ends...), all...)
	return append(b, make([]byte, 256-len(b))...)
}

// four is a number in four bytes, the highest first.
func four(n int) string { return string([]byte{byte(n >> 24), byte(n >> 16), byte(n >> 8), byte(n)}) }

// sealed is a page with the sum of its first 252 bytes in the last four, the lowest first.
func sealed(b []byte) []byte {
	s := crc32.ChecksumIEEE(b[:252])
	return append(slices.Clone(b[:252]), byte(s), byte(s>>8), byte(s>>16), byte(s>>24))
}

// plain is a page of no blob.
func plain(no int) []byte { return byWords(no, 1, "plain") }

// cellsOf is the chapter's words: the cells of a blob in those pages, whether or not its bytes need as many.
func cellsOf(nos []int, b []byte) []string {
	var l []string
	left := string(b)
	nexts := slices.Concat(nos, []int{0})[1:]
	for i := range nos {
		c, most := four(nexts[i]), 238
		if i == 0 {
			c, most = c+four(len(b)), 234
		}
		share := left[:min(most, len(left))]
		left = left[len(share):]
		l = append(l, c+share)
	}
	return l
}

// pagesOf are a blob's pages, by their numbers.
func pagesOf(nos []int, b []byte) map[int][]byte {
	l := map[int][]byte{}
	for i, c := range cellsOf(nos, b) {
		l[nos[i]] = byWords(nos[i], 4, c)
	}
	return l
}

// counted are how many pages so many bytes need, page by page.
func counted(n int) int {
	pages := 1
	for n -= 234; n > 0; n -= 238 {
		pages++
	}
	return pages
}

// some are bytes, of which no four behind one another are a small number.
func some(n int) []byte {
	b := make([]byte, n)
	for i := range b {
		b[i] = byte(i*7+i/250) | 1
	}
	return b
}

// sizes are how many bytes blobs have, at the pages' edges.
func sizes() []int {
	return []int{0, 1, 2, 4, 8, 100, 233, 234, 235, 236, 255, 256, 471, 472, 473, 474, 710, 711, 1000, 3565, 3566, 3567, 3803, 3804, 3805, 3840, 3999, 4000}
}

// upTo are the numbers from 0 on, ahead of n.
func upTo(n int) []int { return from(0, n) }

// from are the numbers from one on, ahead of another one.
func from(first, end int) []int {
	var l []int
	for no := first; no < end; no++ {
		l = append(l, no)
	}
	return l
}

// without are numbers but some of them.
func without(l []int, out ...int) []int {
	return slices.DeleteFunc(slices.Clone(l), func(no int) bool { return slices.Contains(out, no) })
}

// sorted are numbers of several lists, each one once.
func sorted(lists ...[]int) []int {
	l := slices.Concat(lists...)
	slices.Sort(l)
	return slices.Compact(l)
}

// mapsOf are how many maps a pool of n pages has.
func mapsOf(n int) int { return (n + 1919) / 1920 }

// aMap is chapter 12's words: the k-th map of a pool of n pages, of which these are left.
func aMap(n, k int, left []int) []byte {
	cell := make([]byte, (min(n-1920*k, 1920)+7)/8)
	for i := range min(n-1920*k, 1920) {
		cell[i/8] |= 1 << (i % 8)
	}
	for _, no := range left {
		if i := no - 1920*k; i >= 0 && i < 1920 {
			cell[i/8] &^= 1 << (i % 8)
		}
	}
	return byWords(k, 2, string(cell))
}

// over is a pool that holds nothing, of a disk's last n pages.
func over(t *testing.T, d *disk.Disk, n, frames int) *pool.Pool {
	t.Helper()
	p, e := pool.Open(d, d.Size()-n, n, frames)
	if e != api.OK {
		t.Fatalf("Open of a pool: error %d", e)
	}
	return p
}

// lay writes a page of a pool of n, and syncs.
func lay(t *testing.T, d *disk.Disk, n, no int, b []byte) {
	t.Helper()
	if d.Write(d.Size()-n+no, b) != api.OK || d.Sync() != api.OK {
		t.Fatalf("the page %d is not written", no)
	}
}

// layAll writes pages, sealed.
func layAll(t *testing.T, d *disk.Disk, n int, pages map[int][]byte) {
	t.Helper()
	for no, b := range pages {
		lay(t, d, n, no, sealed(b))
	}
}

// laid is a disk with the maps of n pages, of which these are left; some others are there, plain.
func laid(t *testing.T, n int, left ...int) *disk.Disk {
	t.Helper()
	d, e := disk.New(min(n+3, api.MaxSectors))
	if e != api.OK {
		t.Fatalf("New: error %d", e)
	}
	for no := n - 1; no >= max(mapsOf(n), n-20); no-- {
		lay(t, d, n, no, sealed(plain(no)))
	}
	for k := range mapsOf(n) {
		lay(t, d, n, k, sealed(aMap(n, k, left)))
	}
	return d
}

// open is a space over a pool, which holds its maps.
func open(t *testing.T, p *pool.Pool) *space.Space {
	t.Helper()
	s, e := space.Open(p)
	if e != api.OK {
		t.Fatalf("Open of a space: error %d", e)
	}
	return s
}

// spaceOver is a space over a pool that holds nothing, and does not then, whatever lies there.
func spaceOver(t *testing.T, p *pool.Pool) *space.Space {
	t.Helper()
	s, e := space.Format(p)
	if e != api.OK {
		t.Fatalf("Format: error %d", e)
	}
	p.Drop()
	wantFrames(t, p, nil, nil, nil)
	return s
}

// roomy is a space over a pool of n pages, all but its maps of which are left, with as many frames; its maps are held, clean.
func roomy(t *testing.T, n int) (*disk.Disk, *space.Space) {
	t.Helper()
	d := laid(t, n, from(mapsOf(n), n)...)
	return d, open(t, over(t, d, n, min(n, 256)))
}

// noSpaces are what is nil, or no call made.
func noSpaces() []*space.Space { return []*space.Space{nil, {}, new(space.Space)} }

// farNumbers are numbers that no page has, of a pool of n.
func farNumbers(n int) []int {
	return []int{-1, n, -2, n + 1, n + 7, -n, -1920, math.MinInt, math.MinInt + 1, math.MaxInt, math.MaxInt - 1, math.MinInt32, math.MaxInt32, 1 << 32, 1<<32 + n - 1}
}

// wantFrames asks which pages are fresh, dirty and held.
func wantFrames(t *testing.T, p *pool.Pool, fresh, dirty, held []int) {
	t.Helper()
	if f, d, h := p.Fresh(), p.Dirty(), p.Held(); !slices.Equal(f, fresh) || !slices.Equal(d, dirty) || !slices.Equal(h, held) {
		t.Fatalf("fresh %v, dirty %v, held %v; not %v, %v, %v", f, d, h, fresh, dirty, held)
	}
}

func wantPage(t *testing.T, p *pool.Pool, no int, need []byte) {
	t.Helper()
	if b, e := p.Get(no); e != api.OK || !bytes.Equal(b, need) {
		t.Fatalf("the page %d: %v, error %d, not %v", no, b, e, need)
	}
}

// wantNoPage asks that a page was never written, nor put.
func wantNoPage(t *testing.T, p *pool.Pool, no int) {
	t.Helper()
	if b, e := p.Get(no); e != api.ErrSum {
		t.Fatalf("the page %d: %v, error %d", no, b, e)
	}
}

// wantPages asks what pages of a pool are.
func wantPages(t *testing.T, p *pool.Pool, pages map[int][]byte) {
	t.Helper()
	for no, b := range pages {
		wantPage(t, p, no, b)
	}
}

// wantGivenUp asks which pages are given up, one behind the other, where others are got: the oldest first. Those are plain, not held, and from the last page on downwards.
func wantGivenUp(t *testing.T, p *pool.Pool, nos ...int) {
	t.Helper()
	for i, no := range nos {
		h, spare := p.Held(), p.Count()-1-i
		wantPage(t, p, spare, plain(spare))
		if !slices.Contains(h, no) || slices.Contains(p.Held(), no) {
			t.Fatalf("held %v, then %v: the page %d of %v is to be given up", h, p.Held(), no, nos)
		}
	}
}

// wantLeft asks for Left, and for Taken.
func wantLeft(t *testing.T, s *space.Space, left ...int) {
	t.Helper()
	l, e := s.Taken()
	if got := without(upTo(s.Pool().Count()), l...); e != api.OK || !slices.Equal(got, left) {
		t.Fatalf("Taken: error %d, %v are left, not %v", e, got, left)
	}
	if n, e := s.Left(); e != api.OK || n != len(left) {
		t.Fatalf("Left: %d, error %d, not %d", n, e, len(left))
	}
}

func wantPut(t *testing.T, s *space.Space, b []byte, need int) {
	t.Helper()
	if no, e := blob.Put(s, b); e != api.OK || no != need {
		t.Fatalf("Put of %d bytes: %d, error %d, not %d", len(b), no, e, need)
	}
}

func wantNoPut(t *testing.T, s *space.Space, b []byte, need api.Errno) {
	t.Helper()
	if no, e := blob.Put(s, b); e != need || no != 0 {
		t.Fatalf("Put of %d bytes: %d, error %d, not %d", len(b), no, e, need)
	}
}

// wantBlob asks for Chain, and for Get.
func wantBlob(t *testing.T, s *space.Space, nos []int, b []byte) {
	t.Helper()
	if l, e := blob.Chain(s, nos[0]); e != api.OK || !slices.Equal(l, nos) {
		t.Fatalf("Chain(%d): %v, error %d, not %v", nos[0], l, e, nos)
	}
	if got, e := blob.Get(s, nos[0]); e != api.OK || !bytes.Equal(got, b) {
		t.Fatalf("Get(%d): %v, error %d, not %v", nos[0], got, e, b)
	}
}

func wantFree(t *testing.T, s *space.Space, first int, need api.Errno) {
	t.Helper()
	if e := blob.Free(s, first); e != need {
		t.Fatalf("Free(%d): error %d, not %d", first, e, need)
	}
}

// wantNoBlob asks that Chain, Get and Free are refused.
func wantNoBlob(t *testing.T, s *space.Space, first int, need api.Errno) {
	t.Helper()
	if l, e := blob.Chain(s, first); e != need || len(l) != 0 {
		t.Fatalf("Chain(%d): %v, error %d, not %d", first, l, e, need)
	}
	if b, e := blob.Get(s, first); e != need || len(b) != 0 {
		t.Fatalf("Get(%d): %v, error %d, not %d", first, b, e, need)
	}
	wantFree(t, s, first, need)
}

func put(t *testing.T, p *pool.Pool, no int, b []byte) {
	t.Helper()
	if e := p.Put(no, b); e != api.OK {
		t.Fatalf("Put(%d): error %d", no, e)
	}
}

// putPlain puts pages of no blob.
func putPlain(t *testing.T, p *pool.Pool, nos ...int) {
	t.Helper()
	for _, no := range nos {
		put(t, p, no, plain(no))
	}
}

// putAll puts pages.
func putAll(t *testing.T, p *pool.Pool, pages map[int][]byte) {
	t.Helper()
	for no, b := range pages {
		put(t, p, no, b)
	}
}

// settle accepts and flushes.
func settle(t *testing.T, p *pool.Pool) {
	t.Helper()
	p.Accept()
	if e := p.Flush(); e != api.OK {
		t.Fatalf("Flush: error %d", e)
	}
}

// P13.1

func TestPages(t *testing.T) {
	for n, need := range map[int]int{
		math.MinInt: 0, math.MinInt + 1: 0, math.MinInt + 234: 0, math.MinInt32: 0, -239: 0, -238: 0, -235: 0, -234: 0, -4: 0, -2: 0, -1: 0,
		0: 1, 1: 1, 4: 1, 233: 1, 234: 1, 235: 2, 238: 2, 471: 2, 472: 2, 473: 3, 710: 3, 711: 4, 3804: 16, 3805: 17, 4000: 17, 4001: 17, 4042: 17, 4043: 18,
		math.MaxInt32: 9023041, math.MaxInt - 235: 38753664020398217, math.MaxInt - 4: 38753664020398218, math.MaxInt - 1: 38753664020398218, math.MaxInt: 38753664020398218,
	} {
		if got := blob.Pages(n); got != need {
			t.Errorf("Pages(%d): %d, not %d", n, got, need)
		}
	}
}

// There is no greatest blob.
func TestPagesPageByPage(t *testing.T) {
	for n := range 10000 {
		if got, need := blob.Pages(n), counted(n); got != need {
			t.Fatalf("Pages(%d): %d, not %d", n, got, need)
		}
		if got := blob.Pages(-n - 1); got != 0 {
			t.Fatalf("Pages(%d): %d", -n-1, got)
		}
	}
	for n := math.MaxInt - 1000; n < math.MaxInt; n++ { // by the remainder, without a sum that leaves the range
		need := 1 + (n-234)/238
		if (n-234)%238 > 0 {
			need++
		}
		if got := blob.Pages(n); got != need {
			t.Fatalf("Pages(%d): %d, not %d", n, got, need)
		}
	}
}

// P13.2

// The pages of a few blobs, written out.
func TestPagesThatArePut(t *testing.T) {
	_, s := roomy(t, 12)
	p := s.Pool()
	wantPut(t, s, []byte("abc"), 1)
	wantPut(t, s, nil, 2)
	wantPut(t, s, append(bytes.Repeat([]byte{7}, 234), 9), 3)
	wantPut(t, s, append(append(bytes.Repeat([]byte{5}, 234), bytes.Repeat([]byte{6}, 238)...), 7, 8), 5)
	wantPages(t, p, map[int][]byte{
		1: byWords(1, 4, "\x00\x00\x00\x00\x00\x00\x00\x03abc"),
		2: byWords(2, 4, "\x00\x00\x00\x00\x00\x00\x00\x00"),
		3: byWords(3, 4, "\x00\x00\x00\x04\x00\x00\x00\xeb"+string(bytes.Repeat([]byte{7}, 234))),
		4: byWords(4, 4, "\x00\x00\x00\x00\x09"),
		5: byWords(5, 4, "\x00\x00\x00\x06\x00\x00\x01\xda"+string(bytes.Repeat([]byte{5}, 234))),
		6: byWords(6, 4, "\x00\x00\x00\x07"+string(bytes.Repeat([]byte{6}, 238))),
		7: byWords(7, 4, "\x00\x00\x00\x00\x07\x08"),
	})
	// Numbers and sizes of more than one byte.
	d := laid(t, 4096, append([]int{255, 256, 4000}, from(4002, 4096)...)...)
	s = open(t, over(t, d, 4096, 30))
	b := some(4000)
	wantPut(t, s, b, 255)
	wantPages(t, s.Pool(), map[int][]byte{
		255:  byWords(255, 4, "\x00\x00\x01\x00\x00\x00\x0f\xa0"+string(b[:234])),
		256:  byWords(256, 4, "\x00\x00\x0f\xa0"+string(b[234:472])),
		4000: byWords(4000, 4, "\x00\x00\x0f\xa2"+string(b[472:710])),
		4002: byWords(4002, 4, "\x00\x00\x0f\xa3"+string(b[710:948])),
		4015: byWords(4015, 4, "\x00\x00\x00\x00"+string(b[3804:])),
	})
}

// Blobs of all sizes at the edges, each in a space of its own: what is put, taken, fresh and got.
func TestPutOfSizes(t *testing.T) {
	for _, n := range sizes() {
		d, s := roomy(t, 20)
		p, b, k, steps := s.Pool(), some(n), counted(n), d.Steps()
		wantPut(t, s, b, 1)
		wantFrames(t, p, upTo(k+1), nil, upTo(k+1))
		wantLeft(t, s, from(k+1, 20)...)
		wantPages(t, p, pagesOf(from(1, k+1), b))
		wantBlob(t, s, from(1, k+1), b)
		wantFrames(t, p, upTo(k+1), nil, upTo(k+1))
		if blob.Pages(n) != k || d.Steps() != steps {
			t.Fatalf("%d bytes: Pages %d, %d steps", n, blob.Pages(n), d.Steps()-steps)
		}
	}
}

// Whatever the bytes are, they are got: 0 in the place of each number, too.
func TestPutOfAnyBytes(t *testing.T) {
	for _, n := range sizes() {
		for _, c := range []byte{0, 1, 4, 128, 255} {
			_, s := roomy(t, 20)
			b := bytes.Repeat([]byte{c}, n)
			wantPut(t, s, b, 1)
			wantBlob(t, s, from(1, counted(n)+1), b)
			wantPages(t, s.Pool(), pagesOf(from(1, counted(n)+1), b))
		}
	}
}

func TestPutOfNoByte(t *testing.T) {
	_, s := roomy(t, 5)
	for i, b := range [][]byte{nil, {}, some(9)[:0]} {
		wantPut(t, s, b, i+1)
		wantPage(t, s.Pool(), i+1, byWords(i+1, 4, "\x00\x00\x00\x00\x00\x00\x00\x00"))
		wantBlob(t, s, []int{i + 1}, nil)
	}
	wantLeft(t, s, 4)
}

func TestPutWithoutSpace(t *testing.T) {
	for _, s := range noSpaces() {
		for _, n := range []int{0, 1, 234, 235, 4000, 4001, 9000} {
			wantNoPut(t, s, some(n), api.ErrNil)
		}
		wantNoPut(t, s, nil, api.ErrNil)
	}
}

// More than 4000 bytes are refused ahead of all that Alloc and Put refuse; nothing is got.
func TestPutOfTooManyBytes(t *testing.T) {
	for _, n := range []int{4001, 4002, 4042, 4043, 1 << 16, 1<<16 + 3, 1 << 20} {
		d := laid(t, 30, from(1, 30)...)
		p := over(t, d, 30, 1)
		s := spaceOver(t, p)
		wantNoPut(t, s, make([]byte, n), api.ErrBig)
		wantFrames(t, p, nil, nil, nil)
		wantPut(t, open(t, over(t, d, 30, 30)), make([]byte, n)[:4000], 1) // its spare room does not count
		lay(t, d, 30, 0, sealed(aMap(30, 0, nil)))
		wantNoPut(t, s, make([]byte, n), api.ErrBig) // no page is left
		lay(t, d, 30, 0, sealed(plain(0)))
		wantNoPut(t, s, make([]byte, n), api.ErrBig) // the map is none
		putPlain(t, p, 9)
		wantNoPut(t, s, make([]byte, n), api.ErrBig) // no frame is left
		d.Cut(0)
		wantNoPut(t, s, make([]byte, n), api.ErrBig)
		wantFrames(t, p, []int{9}, nil, []int{9})
	}
}

// The least pages that are left are taken, wherever they lie, in as many maps as they need.
func TestPutTakesTheLeastPages(t *testing.T) {
	for _, left := range [][]int{
		{3, 4, 5, 6, 7, 8}, {3, 5, 9, 100, 101, 1000}, {1914, 1915, 1916, 1917, 1918, 1919}, {1918, 1919, 1920, 1921, 3839, 3840},
		{7, 1919, 1920, 3839, 3840, 3999}, {1920, 1927, 1928, 2000, 2001, 3000}, {3840, 3841, 3842, 3900, 3950, 3960}, {5, 1922, 1923, 3850, 3851, 3852},
	} {
		for k := 1; k <= len(left); k++ {
			p := over(t, laid(t, 4000, left...), 4000, 12)
			s := spaceOver(t, p)
			b := some(238*k - 5)
			wantPut(t, s, b, left[0])
			var maps []int // those that are put
			for _, no := range left[:k] {
				maps = append(maps, no/1920)
			}
			got := upTo(left[k-1]/1920 + 1)
			wantFrames(t, p, sorted(maps, left[:k]), nil, sorted(got, left[:k]))
			wantPages(t, p, pagesOf(left[:k], b))
			wantBlob(t, s, left[:k], b)
			wantLeft(t, s, left[k:]...)
		}
	}
}

// Ages: first all pages are taken, then all are put, from the first one on.
func TestPutTakesAllAndThenPuts(t *testing.T) {
	for _, x := range []struct{ left, order []int }{
		{[]int{5, 6, 7, 8}, []int{1, 2, 100, 0, 5, 6, 7, 8}},
		{[]int{5, 6, 1921, 1930}, []int{2, 100, 0, 1, 5, 6, 1921, 1930}},
		{[]int{5, 1921, 1922, 3845}, []int{100, 0, 1, 2, 5, 1921, 1922, 3845}},
		{[]int{1921, 1922, 3000, 3001}, []int{2, 100, 0, 1, 1921, 1922, 3000, 3001}},
		{[]int{3841, 3842, 3843, 3844}, []int{100, 0, 1, 2, 3841, 3842, 3843, 3844}},
	} {
		d := laid(t, 4000, x.left...)
		lay(t, d, 4000, 100, sealed(plain(100)))
		p := over(t, d, 4000, 8)
		s := open(t, p)
		wantPage(t, p, 100, plain(100))
		wantPut(t, s, some(800), x.left[0])
		settle(t, p)
		wantGivenUp(t, p, x.order...)
	}
}

// As many pages are left as a blob needs, or one fewer: then all of them stay taken, none is put, and Drop undoes that.
func TestPutWithJustAsManyPages(t *testing.T) {
	for _, n := range sizes() {
		k := counted(n)
		for _, left := range [][]int{from(1, k+1), from(23-k, 23), {}} {
			if len(left) == 0 { // scattered
				for no := 2; len(left) < k; no += 1 + len(left)%2 {
					left = append(left, no)
				}
			}
			d := laid(t, 40, left...)
			p := over(t, d, 40, 30)
			s := open(t, p)
			wantPut(t, s, some(n), left[0])
			wantBlob(t, s, left, some(n))
			wantLeft(t, s)
			wantNoPut(t, s, nil, api.ErrFull)
			wantBlob(t, s, left, some(n))
			p.Drop()
			wantLeft(t, s, left...)
			gone, _ := s.Alloc() // one fewer
			p.Accept()
			for range 2 {
				dirty := p.Dirty()
				wantNoPut(t, s, some(n), api.ErrFull)
				wantLeft(t, s)
				if k > 1 {
					wantFrames(t, p, []int{0}, dirty, []int{0})
				} else {
					wantFrames(t, p, nil, dirty, []int{0})
				}
				for _, no := range left {
					if no < 20 {
						wantNoPage(t, p, no)
					}
				}
				p.Drop()
				wantLeft(t, s, without(left, gone)...)
			}
			if k > 1 { // a lesser one has room
				wantPut(t, s, some(238*(k-1)-4), left[1])
				wantBlob(t, s, left[1:], some(238*(k-1)-4))
			}
		}
	}
}

// badMaps are what the second map's sector may have that is refused.
func badMaps(n int) map[string]struct {
	b   []byte
	e   api.Errno
	got []int // the maps that are held, where it was asked for behind the first one
} {
	right := aMap(n, 1, from(1950, n))
	return map[string]struct {
		b   []byte
		e   api.Errno
		got []int
	}{
		"never written":   {make([]byte, 256), api.ErrSum, []int{0}},
		"not sealed":      {right, api.ErrSum, []int{0}},
		"no page":         {sealed(byWords(1, 0, "x")), api.ErrForm, []int{0}},
		"another page":    {sealed(byWords(2, 2, "x")), api.ErrStale, []int{0}},
		"of a blob":       {sealed(byWords(1, 4, four(0)+four(0))), api.ErrForm, []int{0, 1}},
		"of another size": {sealed(byWords(1, 2, "xy")), api.ErrForm, []int{0, 1}},
	}
}

// Alloc is refused behind some pages that it gave: they stay taken, none is put, and Drop undoes that.
func TestPutWhereAllocIsRefused(t *testing.T) {
	for name, x := range badMaps(2000) {
		for m := range 4 { // so many pages are given first
			t.Run(name, func(t *testing.T) {
				left := from(1950, 2000)
				first := []int{500, 1000, 1919}[3-m:]
				d := laid(t, 2000, append(left, first...)...)
				lay(t, d, 2000, 1, x.b)
				p := over(t, d, 2000, 9)
				s := spaceOver(t, p)
				wantNoPut(t, s, some(948), x.e) // of four pages
				fresh := []int{0}[:min(m, 1)]
				wantFrames(t, p, fresh, nil, x.got)
				wantPage(t, p, 0, aMap(2000, 0, nil))
				wantNoPage(t, p, 500)
				p.Drop()
				wantPage(t, p, 0, aMap(2000, 0, first))
				put(t, p, 1, aMap(2000, 1, left))
				wantPut(t, s, some(948), append(first, 1950)[0])
				wantLeft(t, s, left[4-m:]...)
			})
		}
	}
}

// The power is off, and some of the maps are held.
func TestPutWithoutPower(t *testing.T) {
	for m := range 5 { // so many pages are left by the first map
		for held := range 4 {
			d := laid(t, 2000, append(from(1000, 1000+m), from(1950, 2000)...)...)
			p := over(t, d, 2000, 9)
			s := spaceOver(t, p)
			for k := range 2 {
				if held>>k&1 == 1 {
					p.Get(k)
				}
			}
			d.Cut(0)
			was := p.Held()
			switch {
			case held == 3 || held == 1 && m == 4:
				nos := append(from(1000, 1000+m), from(1950, 1954-m)...)
				wantPut(t, s, some(948), nos[0])
				wantBlob(t, s, nos, some(948))
				var maps []int
				for _, no := range nos {
					maps = append(maps, no/1920)
				}
				wantFrames(t, p, sorted(maps, nos), nil, sorted(was, nos))
				p.Accept()
				if e := p.Flush(); e != api.ErrDown {
					t.Fatalf("Flush: error %d", e)
				}
			case held == 1:
				wantNoPut(t, s, some(948), api.ErrDown)
				wantFrames(t, p, []int{0}[:min(m, 1)], nil, was)
				wantPage(t, p, 0, aMap(2000, 0, nil))
			default:
				wantNoPut(t, s, some(948), api.ErrDown)
				wantFrames(t, p, nil, nil, was)
			}
		}
	}
}

// There are frames for so many pages alone: the ones that were put stay put, all stay taken, and Drop undoes that.
func TestPutWithFewFrames(t *testing.T) {
	for _, n := range []int{0, 234, 235, 473, 948, 4000} {
		k := counted(n)
		for frames := 1; frames <= k+2; frames++ {
			d := laid(t, 40, from(1, 30)...)
			p := over(t, d, 40, frames)
			s := open(t, p)
			for no := 39; no > 39-frames; no-- { // clean frames are given up
				p.Get(no)
			}
			if frames > k {
				wantPut(t, s, some(n), 1)
				wantBlob(t, s, from(1, k+1), some(n))
				continue
			}
			steps := d.Steps()
			wantNoPut(t, s, some(n), api.ErrBusy)
			wantFrames(t, p, upTo(frames), nil, upTo(frames))
			wantLeft(t, s, from(k+1, 30)...)
			need := pagesOf(from(1, k+1), some(n))
			for no := 1; no < frames; no++ {
				wantPage(t, p, no, need[no])
			}
			if dropped := p.Drop(); dropped != frames || d.Steps() != steps {
				t.Fatalf("Drop: %d, %d steps", dropped, d.Steps()-steps)
			}
			wantFrames(t, p, nil, nil, nil)
			wantLeft(t, s, from(1, 30)...)
			wantNoPut(t, s, some(n), api.ErrBusy)
			p.Accept() // or what was taken may be kept
			wantLeft(t, s, from(k+1, 30)...)
			wantFrames(t, p, nil, upTo(frames), upTo(frames))
		}
	}
}

// Frames that are fresh or dirty with other pages count, too; where all are, not even the map is got.
func TestPutAmongOtherFrames(t *testing.T) {
	for others := range 6 {
		for _, dirty := range []bool{false, true} {
			p := over(t, laid(t, 40, from(1, 30)...), 40, 5)
			s := spaceOver(t, p)
			l := from(32, 32+min(others, 5))
			putPlain(t, p, l...)
			fresh, settled := l, []int(nil)
			if dirty {
				p.Accept()
				fresh, settled = settled, fresh
			}
			if others < 3 { // of two pages, and the map
				wantPut(t, s, some(300), 1)
				wantFrames(t, p, append(upTo(3), fresh...), settled, append(upTo(3), l...))
				wantBlob(t, s, []int{1, 2}, some(300))
				continue
			}
			wantNoPut(t, s, some(300), api.ErrBusy)
			wantFrames(t, p, append(upTo(5-len(l)), fresh...), settled, append(upTo(5-len(l)), l...))
			if others < 5 {
				wantLeft(t, s, from(3, 30)...)
			}
		}
	}
}

// The maps need frames as well: with one frame, a second map can't be got once the first one is put.
func TestPutWithOneFrameForTwoMaps(t *testing.T) {
	p := over(t, laid(t, 2000, 1000, 1001, 1960, 1961), 2000, 1)
	s := open(t, p)
	wantNoPut(t, s, some(600), api.ErrBusy) // of three pages
	wantFrames(t, p, []int{0}, nil, []int{0})
	wantPage(t, p, 0, aMap(2000, 0, nil))
	p.Drop()
	wantLeft(t, s, 1000, 1001, 1960, 1961)
	wantNoPut(t, s, some(300), api.ErrBusy)
	wantPage(t, p, 0, aMap(2000, 0, nil)) // both are taken, none is put
	wantFrames(t, p, []int{0}, nil, []int{0})
}

// What is refused first ends it: a later page that has a frame is not put, and what is taken comes ahead of what is put.
func TestPutEndsAtItsFirstRefusal(t *testing.T) {
	for _, frames := range []int{2, 3} {
		p := over(t, laid(t, 40, from(1, 30)...), 40, frames)
		s := spaceOver(t, p)
		putPlain(t, p, 3)
		p.Accept()
		wantNoPut(t, s, some(600), api.ErrBusy) // of the pages 1, 2 and 3
		wantFrames(t, p, upTo(frames-1), []int{3}, append(upTo(frames-1), 3))
		wantPage(t, p, 3, plain(3))
		wantPage(t, p, 0, aMap(40, 0, from(4, 30)))
	}
	for k := range 3 { // so many pages are left, of three, and no frame for any
		p := over(t, laid(t, 40, from(1, 1+k)...), 40, 1)
		s := open(t, p)
		wantNoPut(t, s, some(600), api.ErrFull)
		wantLeft(t, s)
		wantFrames(t, p, []int{0}[:min(k, 1)], nil, []int{0})
	}
}

// What lies in the pages' sectors, and what the frames of these pages hold, does not count.
func TestPutOverPages(t *testing.T) {
	b := some(700)
	d := laid(t, 30, from(1, 30)...)
	lay(t, d, 30, 1, sealed(plain(1)))
	lay(t, d, 30, 2, sealed(plain(9))) // another page
	p := over(t, d, 30, 30)
	s := open(t, p)
	wantPage(t, p, 1, plain(1)) // clean
	putPlain(t, p, 2)
	p.Accept()        // dirty
	putPlain(t, p, 3) // fresh
	wantPut(t, s, b, 1)
	wantFrames(t, p, upTo(4), []int{2}, upTo(4))
	wantBlob(t, s, []int{1, 2, 3}, b)
	p.Drop()
	wantFrames(t, p, nil, []int{2}, []int{2})
	wantPage(t, p, 1, plain(1))
	wantPage(t, p, 2, plain(2))
	wantNoPage(t, p, 3)
	wantLeft(t, s, from(1, 30)...)
	wantPut(t, s, b, 1)
	settle(t, p)
	wantBlob(t, open(t, over(t, d, 30, 1)), []int{1, 2, 3}, b)
}

// What is handed in stays as it is, its spare room too, and is not kept.
func TestPutLeavesItsBytes(t *testing.T) {
	for _, n := range sizes() {
		for _, spare := range []int{0, 1, 300, 5000} {
			_, s := roomy(t, 40)
			whole := some(n + spare)
			for i := range spare {
				whole[n+i] = 200
			}
			was := slices.Clone(whole)
			wantPut(t, s, whole[:n], 1)
			if !bytes.Equal(whole, was) {
				t.Fatalf("the %d bytes, or what lies behind them, have changed", n)
			}
			for i := range whole {
				whole[i] = 77
			}
			wantBlob(t, s, from(1, counted(n)+1), some(n))
			wantPut(t, s, whole[:n], counted(n)+1)
			wantBlob(t, s, from(1, counted(n)+1), some(n))
		}
	}
}
