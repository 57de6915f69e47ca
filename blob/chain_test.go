package blob_test

import (
	"fmt"
	"maps"
	"slices"
	"testing"

	"tabulary/api"
	"tabulary/blob"
	"tabulary/disk"
	"tabulary/space"
)

// P13.3

// calls are those that go through a blob's pages; each tells how it is refused.
func calls() map[string]func(*space.Space, int) api.Errno {
	return map[string]func(*space.Space, int) api.Errno{
		"Chain": func(s *space.Space, first int) api.Errno { _, e := blob.Chain(s, first); return e },
		"Get":   func(s *space.Space, first int) api.Errno { _, e := blob.Get(s, first); return e },
		"Free":  blob.Free,
	}
}

// chains are the pages of blobs, in a pool of 60: rising, falling, and neither.
func chains(k int) [][]int {
	var falling, mixed []int
	for i := range k {
		falling = append(falling, 38-i)
		mixed = append(mixed, 3+(i*7+5)%31)
	}
	return [][]int{from(5, 5+k), falling, mixed}
}

// laidBlob is a disk of 60 pages, none of which is left, with a blob's pages.
func laidBlob(t *testing.T, nos []int, b []byte) *disk.Disk {
	t.Helper()
	d := laid(t, 60)
	layAll(t, d, 60, pagesOf(nos, b))
	return d
}

// Pages that were laid down by the chapter's words are got, rising or not.
func TestGetOfPagesByWords(t *testing.T) {
	for _, n := range sizes() {
		for _, nos := range chains(counted(n)) {
			d := laidBlob(t, nos, some(n))
			s := open(t, over(t, d, 60, 30))
			wantBlob(t, s, nos, some(n))
			wantFrames(t, s.Pool(), nil, nil, sorted([]int{0}, nos))
			p := over(t, d, 60, 30) // and where they are fresh
			s = spaceOver(t, p)
			putAll(t, p, pagesOf(nos, some(n)))
			wantBlob(t, s, nos, some(n))
			wantFrames(t, p, sorted(nos), nil, sorted(nos))
		}
	}
}

// Whether a page is taken is not asked.
func TestGetOfPagesThatAreNotTaken(t *testing.T) {
	for _, n := range []int{0, 100, 473, 4000} {
		nos := chains(counted(n))[2]
		d := laid(t, 60, from(1, 60)...)
		layAll(t, d, 60, pagesOf(nos, some(n)))
		lay(t, d, 60, 0, make([]byte, 256)) // nor is there a map
		p := over(t, d, 60, 30)
		s := spaceOver(t, p)
		wantBlob(t, s, nos, some(n))
		wantFrames(t, p, nil, nil, sorted(nos))
	}
}

// Several blobs' pages among one another; each is told by itself.
func TestGetOfBlobsAmongOneAnother(t *testing.T) {
	all := map[int][]int{473: {9, 4, 20}, 500: {10, 3, 21}, 0: {5}, 472: {22, 11}, 4000: {39, 38, 6, 7, 8, 12, 13, 14, 15, 16, 30, 29, 28, 27, 26, 25, 24}}
	d := laid(t, 60)
	for n, nos := range all {
		layAll(t, d, 60, pagesOf(nos, some(n)))
	}
	p := over(t, d, 60, 40)
	s := open(t, p)
	for range 2 {
		for n, nos := range all {
			wantBlob(t, s, nos, some(n))
		}
	}
}

// Chain and Get get the pages in their order, and no map; nothing is changed but their ages.
func TestPagesAreGotInOrder(t *testing.T) {
	for name, call := range calls() {
		if name == "Free" {
			continue
		}
		for _, nos := range [][]int{{7, 3, 5}, {5, 3, 7}, {3, 5, 7}, {7, 5, 3}} {
			b := some(500)
			d := laidBlob(t, nos, b)
			lay(t, d, 60, 20, sealed(plain(20)))
			p := over(t, d, 60, 4)
			s := spaceOver(t, p)
			wantPage(t, p, 20, plain(20))
			steps := d.Steps()
			if e := call(s, nos[0]); e != api.OK {
				t.Fatalf("%s: error %d", name, e)
			}
			wantFrames(t, p, nil, nil, []int{3, 5, 7, 20})
			wantGivenUp(t, p, append([]int{20}, nos...)...)
			// Those that are held are the younger for it.
			p = over(t, d, 60, 4)
			s = spaceOver(t, p)
			for _, no := range []int{nos[2], nos[0], 20, nos[1]} {
				p.Get(no)
			}
			call(s, nos[0])
			wantGivenUp(t, p, append([]int{20}, nos...)...)
			if d.Steps() != steps {
				t.Fatalf("%s makes a step", name)
			}
		}
	}
}

// Pages that are fresh, and that are dirty, stay so.
func TestGetLeavesWhatIsFresh(t *testing.T) {
	nos, b := []int{7, 3, 5, 9}, some(800)
	p := over(t, laid(t, 60), 60, 6)
	s := open(t, p)
	pages := pagesOf(nos, b)
	put(t, p, 3, pages[3])
	put(t, p, 7, plain(7))
	p.Accept()
	put(t, p, 7, pages[7])
	put(t, p, 5, pages[5])
	put(t, p, 9, pages[9])
	for range 3 {
		wantBlob(t, s, nos, b)
		wantFrames(t, p, []int{5, 7, 9}, []int{3, 7}, []int{0, 3, 5, 7, 9})
	}
	p.Drop()
	wantFrames(t, p, nil, []int{3, 7}, []int{0, 3, 7})
	wantNoBlob(t, s, 7, api.ErrForm)
}

// One frame that is clean is enough.
func TestGetWithOneFrame(t *testing.T) {
	for _, n := range sizes() {
		nos := chains(counted(n))[1]
		p := over(t, laidBlob(t, nos, some(n)), 60, 3)
		s := spaceOver(t, p)
		putPlain(t, p, 50)
		p.Accept()
		putPlain(t, p, 51)
		wantBlob(t, s, nos, some(n))
		wantFrames(t, p, []int{51}, []int{50}, []int{nos[len(nos)-1], 50, 51})
	}
}

func TestNoBlobWithoutSpace(t *testing.T) {
	for _, s := range noSpaces() {
		for _, first := range append(farNumbers(60), 0, 1, 5) {
			wantNoBlob(t, s, first, api.ErrNil)
		}
	}
}

// The first page is no page of the pool, or one of no blob.
func TestNoFirstPage(t *testing.T) {
	for _, n := range []int{60, 2000, 4000, 4096} {
		d := laid(t, n)
		p := over(t, d, n, 30)
		s := spaceOver(t, p)
		for _, first := range farNumbers(n) {
			wantNoBlob(t, s, first, api.ErrInvalid)
			wantFrames(t, p, nil, nil, nil)
		}
		for k := range mapsOf(n) {
			wantNoBlob(t, s, k, api.ErrForm)
			wantFrames(t, p, nil, nil, upTo(k+1))
		}
		wantNoBlob(t, s, n-1, api.ErrForm) // a plain one
		wantNoBlob(t, s, n-30, api.ErrSum) // never written
		d.Cut(0)
		for _, first := range farNumbers(n) {
			wantNoBlob(t, s, first, api.ErrInvalid)
		}
		wantNoBlob(t, s, n-2, api.ErrDown)
		wantNoBlob(t, s, n-1, api.ErrForm) // it is held
	}
}

// A later page of a blob is none of its own, unless it reads as the first one of another.
func TestLaterPages(t *testing.T) {
	for _, n := range []int{235, 400, 472, 473, 948, 4000} {
		nos := chains(counted(n))[2]
		s := open(t, over(t, laidBlob(t, nos, some(n)), 60, 30))
		for _, no := range nos[1:] {
			wantNoBlob(t, s, no, api.ErrForm)
		}
		wantBlob(t, s, nos, some(n))
	}
	b := some(480)
	copy(b[234:], four(242)) // the second page, and the third one, are a blob's of 234 bytes and 8 more
	s := open(t, over(t, laidBlob(t, []int{7, 4, 9}, b), 60, 30))
	wantBlob(t, s, []int{7, 4, 9}, b)
	wantBlob(t, s, []int{4, 9}, append(slices.Clone(b[238:472]), b[472:]...))
	wantNoBlob(t, s, 9, api.ErrForm)
	for _, size := range []int{0, 233, 234, 235, 241, 243, 472} {
		copy(b[234:], four(size))
		s = open(t, over(t, laidBlob(t, []int{7, 4, 9}, b), 60, 30))
		wantBlob(t, s, []int{7, 4, 9}, b)
		wantNoBlob(t, s, 4, api.ErrForm)
	}
}

// wrongCells are cells in the place of a blob's i-th one, each of another form than that one is to have.
func wrongCells(nos []int, b []byte, i int) map[string]string {
	right := cellsOf(nos, b)[i]
	next, rest := right[:4], right[4:]
	l := map[string]string{"a byte too few": right[:len(right)-1], "no byte": ""}
	for n := 1; n < 8 && n < len(right); n++ {
		l[fmt.Sprint("of ", n, " bytes")] = right[:n]
	}
	if len(right) < 242 {
		for _, c := range []string{"\x00", "\x01", "\xff"} {
			l[fmt.Sprintf("a byte too many, %x", c)] = right + c
		}
		l["as many bytes as have room"] = right + string(some(242-len(right)))
	}
	if next == four(0) {
		for _, no := range []int{1, 256, 1 << 16, 1 << 24, nos[0], nos[i], 1<<31 - 1, 1 << 31, 1<<32 - 1, 50, 0xff000000} {
			l[fmt.Sprint("the page ", no, " behind the last one")] = four(no) + rest
		}
	} else {
		l["no page behind one that is not the last"] = four(0) + rest
	}
	if i > 0 {
		return l
	}
	bytes := rest[4:]
	for _, n := range []int{4001, 4002, 4042, 4043, 65535, 1 << 16, 1<<31 - 1, 1 << 31, 1<<32 - 1, 1<<32 - 4} {
		l[fmt.Sprint("the size ", n)] = next + four(n) + bytes
	}
	for _, n := range []int{len(b) + 1<<8*16, len(b) + 1<<16, len(b) + 1<<24, len(b) + 1<<31} {
		l[fmt.Sprint("the size ", n)] = next + four(n) + bytes
	}
	return l
}

// wrongPages are pages in the place of a blob's i-th one, which are refused with ErrForm.
func wrongPages(nos []int, b []byte, i int) map[string][]byte {
	no, right := nos[i], cellsOf(nos, b)[i]
	l := map[string][]byte{
		"no cell":             byWords(no, 4),
		"two cells":           byWords(no, 4, right[:len(right)/2], right[len(right)/2:][:min(119, len(right)-len(right)/2)]),
		"two cells, no bytes": byWords(no, 4, "", ""),
		"of another page":     byWords(no, 1, "plain"),
		"a map":               byWords(no, 2, string(some(240))),
	}
	if len(right) <= 240 {
		l["an empty cell ahead"] = byWords(no, 4, "", right)
		l["an empty cell behind"] = byWords(no, 4, right, "")
		l["each twice"] = byWords(no, 4, right[:min(120, len(right))], right[:min(120, len(right))])
	}
	for _, kind := range []byte{1, 2, 3, 5, 6, 68, 132, 255} {
		l[fmt.Sprint("of the kind ", kind)] = byWords(no, kind, right)
	}
	for name, c := range wrongCells(nos, b, i) {
		l[name] = byWords(no, 4, c)
	}
	return l
}

// wantRefusedAt asks that each call is refused behind so many pages of a chain, which are got, and held; and that nothing else is done.
func wantRefusedAt(t *testing.T, d *disk.Disk, nos []int, got int, need api.Errno) {
	t.Helper()
	for name, call := range calls() {
		p := over(t, d, 60, 30)
		s := spaceOver(t, p)
		if e := call(s, nos[0]); e != need {
			t.Fatalf("%s(%d): error %d, not %d", name, nos[0], e, need)
		}
		wantFrames(t, p, nil, nil, sorted(nos[:got]))
	}
	s := open(t, over(t, d, 60, 30))
	wantNoBlob(t, s, nos[0], need)
	wantLeft(t, s)
	wantFrames(t, s.Pool(), nil, nil, sorted([]int{0}, nos[:got]))
}

// wrongSizes are how many bytes the blobs have of which one page is wrong.
func wrongSizes() []int { return []int{0, 3, 200, 234, 235, 238, 240, 400, 472, 473, 948, 4000} }

// A page of another form is refused, wherever it stands; those ahead of it, and it, are got.
func TestWrongPages(t *testing.T) {
	for _, n := range wrongSizes() {
		nos := chains(counted(n))[2]
		d := laidBlob(t, nos, some(n))
		for i, no := range nos {
			if i > 3 && i < len(nos)-2 {
				continue
			}
			right := pagesOf(nos, some(n))[no]
			for name, b := range wrongPages(nos, some(n), i) {
				t.Run(fmt.Sprintf("%d bytes, the page %d, %s", n, i, name), func(t *testing.T) {
					lay(t, d, 60, no, sealed(b))
					wantRefusedAt(t, d, nos, i+1, api.ErrForm)
				})
			}
			lay(t, d, 60, no, sealed(right))
		}
		wantBlob(t, open(t, over(t, d, 60, 30)), nos, some(n))
	}
}

// The size that the first page says is another one than the bytes are: the page where that is seen is the last one that is got.
func TestWrongSizes(t *testing.T) {
	for _, x := range []struct{ n, says, got int }{
		{0, 1, 1}, {1, 0, 1}, {1, 2, 1}, {234, 233, 1}, {234, 235, 1}, {234, 0, 1}, {234, 4000, 1}, {235, 234, 1}, {235, 0, 1}, {235, 4000, 2},
		{235, 236, 2}, {236, 235, 2}, {472, 471, 2}, {472, 473, 2}, {473, 472, 2}, {473, 474, 3}, {473, 234, 1}, {473, 235, 2},
		{710, 711, 3}, {711, 710, 3}, {711, 712, 4}, {4000, 3999, 17}, {3999, 4000, 17}, {3804, 3805, 16}, {3805, 3804, 16}, {4000, 3804, 16}, {4000, 473, 3},
	} {
		nos := chains(counted(x.n))[2]
		d := laidBlob(t, nos, some(x.n))
		c := cellsOf(nos, some(x.n))[0]
		lay(t, d, 60, nos[0], sealed(byWords(nos[0], 4, c[:4]+four(x.says)+c[8:])))
		t.Run(fmt.Sprintf("%d bytes, which say %d", x.n, x.says), func(t *testing.T) {
			wantRefusedAt(t, d, nos, x.got, api.ErrForm)
		})
	}
}

// A page with all the bytes of a blob that has too many is none.
func TestBlobsOfMoreThanMaxBody(t *testing.T) {
	for _, n := range []int{4001, 4042, 4043} {
		nos := from(5, 5+counted(n))
		wantRefusedAt(t, laidBlob(t, nos, some(n)), nos, 1, api.ErrForm)
	}
	nos := from(5, 5+counted(4000))
	wantBlob(t, open(t, over(t, laidBlob(t, nos, some(4000)), 60, 30)), nos, some(4000))
}

// A chain that comes back is refused, as none of its pages is the last one: where a page is too great for its place, or where none comes any more.
func TestChainsThatComeBack(t *testing.T) {
	for _, n := range []int{235, 300, 472, 473, 700, 710, 948, 4000} {
		k := counted(n)
		for i := range k { // the page that comes back
			for to := range i + 1 { // the one that it comes back to
				nos := chains(k)[2]
				d := laidBlob(t, nos, some(n))
				c := cellsOf(nos, some(n))[i]
				lay(t, d, 60, nos[i], sealed(byWords(nos[i], 4, four(nos[to])+c[4:])))
				t.Run(fmt.Sprintf("%d bytes, from the page %d to the page %d", n, i, to), func(t *testing.T) {
					wantRefusedAt(t, d, nos, i+1, api.ErrForm)
				})
			}
		}
	}
}

// A page that stands for all that are behind it has the bytes of each place, but never ends.
func TestPagesThatComeBackToThemselves(t *testing.T) {
	for _, n := range []int{472, 710, 948, 3566, 3804, 4000, 300} {
		full := string(some(238))
		d := laid(t, 60)
		lay(t, d, 60, 9, sealed(byWords(9, 4, four(9)+four(n)+full[:234]))) // the first one, to itself
		wantRefusedAt(t, d, []int{9}, 1, api.ErrForm)
		lay(t, d, 60, 9, sealed(byWords(9, 4, four(8)+four(n)+full[:234]))) // a second one, to itself
		lay(t, d, 60, 8, sealed(byWords(8, 4, four(8)+full)))
		wantRefusedAt(t, d, []int{9, 8}, 2, api.ErrForm)
		lay(t, d, 60, 8, sealed(byWords(8, 4, four(9)+full))) // and to the first one
		wantRefusedAt(t, d, []int{9, 8}, 2, api.ErrForm)
	}
}

// badSectors are what a sector may have that is not the page no, and what is refused of it.
func badSectors(no int, right []byte) map[string]struct {
	b []byte
	e api.Errno
} {
	spoilt := sealed(right)
	spoilt[14] ^= 64
	torn := append(sealed(right)[:128], make([]byte, 128)...)
	return map[string]struct {
		b []byte
		e api.Errno
	}{
		"never written": {make([]byte, 256), api.ErrSum},
		"spoilt":        {spoilt, api.ErrSum},
		"torn":          {torn, api.ErrSum},
		"not sealed":    {right, api.ErrSum},
		"no page":       {sealed(byWords(no, 0, "x")), api.ErrForm},
		"another page":  {sealed(append([]byte(four(no+1)), right[4:]...)), api.ErrStale},
		"a far page":    {sealed(append([]byte(four(no+1<<16)), right[4:]...)), api.ErrStale},
	}
}

// What Get refuses of a page's sector; those ahead of it are got.
func TestPagesWhoseSectorsAreBad(t *testing.T) {
	for _, n := range []int{0, 234, 473, 948, 4000} {
		nos := chains(counted(n))[2]
		d := laidBlob(t, nos, some(n))
		for i, no := range nos {
			right := pagesOf(nos, some(n))[no]
			for name, x := range badSectors(no, right) {
				t.Run(fmt.Sprintf("%d bytes, the page %d, %s", n, i, name), func(t *testing.T) {
					lay(t, d, 60, no, x.b)
					wantRefusedAt(t, d, nos, i, x.e)
				})
			}
			lay(t, d, 60, no, sealed(right))
		}
	}
}

// The page that comes next is no page of the pool, or a map, or one of another blob.
func TestNextPagesThatAreNone(t *testing.T) {
	for _, n := range []int{473, 948, 4000} {
		for _, i := range []int{0, 1, counted(n) - 2} {
			nos := chains(counted(n))[2]
			d := laidBlob(t, nos, some(n))
			layAll(t, d, 60, pagesOf([]int{45, 46}, some(300)))
			c := cellsOf(nos, some(n))[i][4:]
			for next, e := range map[int]api.Errno{
				60: api.ErrInvalid, 61: api.ErrInvalid, 256 + 5: api.ErrInvalid, 1 << 16: api.ErrInvalid, 1<<24 + 3: api.ErrInvalid, 4096: api.ErrInvalid,
				1<<31 - 1: api.ErrInvalid, 1 << 31: api.ErrInvalid, 1<<32 - 1: api.ErrInvalid, 57: api.ErrForm, 39: api.ErrSum,
			} {
				lay(t, d, 60, nos[i], sealed(byWords(nos[i], 4, four(next)+c)))
				got := slices.Clone(nos[:i+1])
				if e == api.ErrForm {
					got = append(got, next)
				}
				wantRefusedAt(t, d, got, len(got), e)
			}
			if c = four(45) + c; i < counted(n)-2 { // too few pages of the other blob
				lay(t, d, 60, nos[i], sealed(byWords(nos[i], 4, c)))
				wantRefusedAt(t, d, append(slices.Clone(nos[:i+1]), 45, 46), i+3, api.ErrForm)
			}
		}
	}
	// A map behind the first page.
	d := laidBlob(t, []int{5, 6}, some(300))
	lay(t, d, 60, 6, sealed(byWords(6, 2, "\xff")))
	wantRefusedAt(t, d, []int{5, 6}, 2, api.ErrForm)
	d = laid(t, 4000)
	c := cellsOf([]int{5, 2}, some(473))
	lay(t, d, 4000, 5, sealed(byWords(5, 4, c[0])))
	p := over(t, d, 4000, 9)
	wantNoBlob(t, spaceOver(t, p), 5, api.ErrForm)
	wantFrames(t, p, nil, nil, []int{2, 5})
}

// Page by page: of several that are refused the first one's error is told.
func TestTheFirstPageThatIsRefused(t *testing.T) {
	nos, b := []int{9, 4, 20, 6}, some(900)
	wrong := map[api.Errno]func(no int) []byte{
		api.ErrSum:   func(int) []byte { return make([]byte, 256) },
		api.ErrStale: func(no int) []byte { return sealed(byWords(no+1, 4, "x")) },
		api.ErrForm:  func(no int) []byte { return sealed(byWords(no, 4, "x")) },
	}
	for i := range nos {
		for first, one := range wrong {
			for _, other := range wrong {
				d := laidBlob(t, nos, b)
				for k := i; k < len(nos); k++ {
					lay(t, d, 60, nos[k], other(nos[k]))
				}
				lay(t, d, 60, nos[i], one(nos[i]))
				got := i
				if first == api.ErrForm {
					got++
				}
				wantRefusedAt(t, d, nos, got, first)
			}
		}
	}
	// The next one is not asked for where this one is not as it is to be.
	d := laidBlob(t, nos, b)
	c := cellsOf(nos, b)
	for _, cell := range []string{four(99) + four(100) + c[0][8:], four(99) + c[0][4:100], four(99) + four(4001) + c[0][8:]} {
		lay(t, d, 60, 9, sealed(byWords(9, 4, cell)))
		wantRefusedAt(t, d, nos, 1, api.ErrForm)
	}
	lay(t, d, 60, 9, sealed(byWords(9, 4, four(99)+c[0][4:])))
	wantRefusedAt(t, d, nos, 1, api.ErrInvalid)
}

// No frame is free or clean for a page: ErrBusy, ahead of what its sector, and the disk, refuse; where it is held, it is got.
func TestPagesWithoutFrames(t *testing.T) {
	nos, b := []int{9, 4, 20, 6}, some(900)
	pages := pagesOf(nos, b)
	for held := range 16 {
		for _, dirty := range []bool{false, true} {
			var l []int
			for i, no := range nos {
				if held>>i&1 == 1 {
					l = append(l, no)
				}
			}
			d := laidBlob(t, nos, b)
			p := over(t, d, 60, len(l)+1)
			s := spaceOver(t, p)
			for _, no := range l {
				put(t, p, no, pages[no])
			}
			putPlain(t, p, 58)
			fresh, settled := sorted(l, []int{58}), []int(nil)
			if dirty {
				p.Accept()
				fresh, settled = settled, fresh
			}
			if held == 15 {
				wantBlob(t, s, nos, b)
				wantFree(t, s, 9, api.ErrBusy) // the map can't be got
				wantFrames(t, p, fresh, settled, sorted(fresh, settled))
				continue
			}
			wantNoBlob(t, s, 9, api.ErrBusy)
			for _, no := range nos {
				lay(t, d, 60, no, make([]byte, 256))
			}
			wantNoBlob(t, s, 9, api.ErrBusy)
			d.Cut(0)
			wantNoBlob(t, s, 9, api.ErrBusy)
			wantNoBlob(t, s, 60, api.ErrInvalid)
			wantFrames(t, p, fresh, settled, sorted(fresh, settled))
		}
	}
}

// The power is cut ahead of each call, with some of the pages held.
func TestGetWithoutPower(t *testing.T) {
	nos, b := []int{9, 4, 20, 6}, some(900)
	for held := range 16 {
		for name, call := range calls() {
			d := laidBlob(t, nos, b)
			p := over(t, d, 60, 9)
			s := spaceOver(t, p)
			for i, no := range nos {
				if held>>i&1 == 1 {
					p.Get(no)
				}
			}
			h := p.Held()
			d.Cut(0)
			need := api.ErrDown
			if held == 15 && name != "Free" { // Free needs the map
				need = api.OK
			}
			if e := call(s, 9); e != need {
				t.Fatalf("%s with %v held: error %d, not %d", name, h, e, need)
			}
			wantFrames(t, p, nil, nil, h)
			if held == 15 {
				wantBlob(t, s, nos, b)
			}
		}
	}
}

// What is told is new memory, its spare room too: what is done to it is seen nowhere.
func TestAnswersAreNewMemory(t *testing.T) {
	for _, n := range sizes() {
		nos := chains(counted(n))[2]
		p := over(t, laidBlob(t, nos, some(n)), 60, 30)
		s := open(t, p)
		for range 2 {
			l, _ := blob.Chain(s, nos[0])
			m, _ := blob.Chain(s, nos[0])
			b, _ := blob.Get(s, nos[0])
			c, _ := blob.Get(s, nos[0])
			l, b = l[:cap(l)], b[:cap(b)]
			for i := range l {
				l[i] = 77
			}
			for i := range b {
				b[i] = 77
			}
			if !slices.Equal(m, nos) || !slices.Equal(c, some(n)) {
				t.Fatalf("%d bytes: two answers share memory", n)
			}
			wantBlob(t, s, nos, some(n))
			wantPages(t, p, pagesOf(nos, some(n)))
		}
	}
}

// The same pool's pages told by two spaces, and by a space that was made ahead of them.
func TestGetBySpacesOverOnePool(t *testing.T) {
	nos, b := []int{9, 4, 20, 6}, some(900)
	p := over(t, laid(t, 60), 60, 9)
	s, o := open(t, p), open(t, p)
	wantNoBlob(t, s, 9, api.ErrSum)
	putAll(t, p, pagesOf(nos, b))
	wantBlob(t, s, nos, b)
	wantBlob(t, o, nos, b)
	if fresh := slices.Sorted(maps.Keys(pagesOf(nos, b))); !slices.Equal(p.Fresh(), fresh) {
		t.Fatalf("fresh: %v", p.Fresh())
	}
}
