package space_test

import (
	"bytes"
	"fmt"
	"hash/crc32"
	"math"
	"slices"
	"testing"

	"tabulary/api"
	"tabulary/disk"
	"tabulary/pool"
	"tabulary/space"
)

// byWords is chapter 9's words, byte by byte: a page that is not sealed.
func byWords(no int, kind byte, cells ...string) []byte {
	b := []byte{byte(no >> 24), byte(no >> 16), byte(no >> 8), byte(no), kind, byte(len(cells))}
	var ends, all []byte
	for _, c := range cells {
		all = append(all, c...)
		ends = append(ends, byte(len(all)>>8), byte(len(all)))
	}
	b = append(b, byte(len(all)>>8), byte(len(all)))
	b = append(append(b, ends...), all...)
	return append(b, make([]byte, 256-len(b))...)
}

// sealed is a page with the sum of its first 252 bytes in the last four, the lowest first.
func sealed(b []byte) []byte {
	s := crc32.ChecksumIEEE(b[:252])
	return append(slices.Clone(b[:252]), byte(s), byte(s>>8), byte(s>>16), byte(s>>24))
}

// plain is a page that is no map.
func plain(no int) []byte { return byWords(no, 1, "plain") }

// upTo are the numbers from 0 on, ahead of n.
func upTo(n int) []int { return from(0, n) }

// from are the numbers from one on, ahead of another one.
func from(first, end int) []int {
	var l []int
	for no := first; no < end; no++ {
		l = append(l, no)
	}
	return l
}

// without are numbers but some of them.
func without(l []int, out ...int) []int {
	return slices.DeleteFunc(slices.Clone(l), func(no int) bool { return slices.Contains(out, no) })
}

// cell is the chapter's words: the cell of the k-th map of a pool of n pages.
func cell(n, k int, taken []int) string {
	var b []byte
	for no := 1920 * k; no < n && no < 1920*k+1920; no++ {
		if (no-1920*k)%8 == 0 {
			b = append(b, 0)
		}
		if slices.Contains(taken, no) {
			b[len(b)-1] += []byte{1, 2, 4, 8, 16, 32, 64, 128}[(no-1920*k)%8]
		}
	}
	return string(b)
}

// aMap is the k-th map of a pool of n pages.
func aMap(n, k int, taken []int) []byte { return byWords(k, 2, cell(n, k, taken)) }

// mapsOf are how many maps a pool of n pages has.
func mapsOf(n int) int {
	switch {
	case n > 3840:
		return 3
	case n > 1920:
		return 2
	}
	return 1
}

// bare is a pool over a disk that nothing was written on; its pages are the disk's last ones.
func bare(t *testing.T, n, frames int) (*disk.Disk, *pool.Pool) {
	t.Helper()
	d, e := disk.New(min(n+3, api.MaxSectors))
	if e != api.OK {
		t.Fatalf("New: error %d", e)
	}
	return d, over(t, d, n, frames)
}

// over is another pool of those pages.
func over(t *testing.T, d *disk.Disk, n, frames int) *pool.Pool {
	t.Helper()
	p, e := pool.Open(d, d.Size()-n, n, frames)
	if e != api.OK {
		t.Fatalf("Open of a pool: error %d", e)
	}
	return p
}

// lay writes a page of a pool of n, and syncs.
func lay(t *testing.T, d *disk.Disk, n, no int, b []byte) {
	t.Helper()
	if d.Write(d.Size()-n+no, b) != api.OK || d.Sync() != api.OK {
		t.Fatalf("the page %d is not written", no)
	}
}

// laid is a pool that holds nothing, over a disk with its maps, by which such pages are taken, and with some pages behind those.
func laid(t *testing.T, n, frames int, taken []int) (*disk.Disk, *pool.Pool) {
	t.Helper()
	d, p := bare(t, n, frames)
	for no := range min(n, 12) {
		lay(t, d, n, no, sealed(plain(no)))
	}
	for k := range mapsOf(n) {
		lay(t, d, n, k, sealed(aMap(n, k, taken)))
	}
	return d, p
}

func format(t *testing.T, p *pool.Pool) *space.Space {
	t.Helper()
	s, e := space.Format(p)
	if e != api.OK || s == nil {
		t.Fatalf("Format: error %d", e)
	}
	return s
}

func open(t *testing.T, p *pool.Pool) *space.Space {
	t.Helper()
	s, e := space.Open(p)
	if e != api.OK || s == nil {
		t.Fatalf("Open: error %d", e)
	}
	return s
}

// spaceOver is a space over a pool, whatever lies there: what Format puts is dropped, so that the pool holds nothing.
func spaceOver(t *testing.T, p *pool.Pool) *space.Space {
	t.Helper()
	s := format(t, p)
	p.Drop()
	wantFrames(t, p, nil, nil, nil)
	return s
}

func wantNoFormat(t *testing.T, p *pool.Pool, need api.Errno) {
	t.Helper()
	if s, e := space.Format(p); e != need || s != nil {
		t.Fatalf("Format: %v, error %d, not %d", s, e, need)
	}
}

func wantNoOpen(t *testing.T, p *pool.Pool, need api.Errno) {
	t.Helper()
	if s, e := space.Open(p); e != need || s != nil {
		t.Fatalf("Open: %v, error %d, not %d", s, e, need)
	}
}

// wantAlloc asks that pages are given, one behind the other.
func wantAlloc(t *testing.T, s *space.Space, nos ...int) {
	t.Helper()
	for _, need := range nos {
		if no, e := s.Alloc(); no != need || e != api.OK {
			t.Fatalf("Alloc: %d, error %d, not %d", no, e, need)
		}
	}
}

func wantNoAlloc(t *testing.T, s *space.Space, need api.Errno) {
	t.Helper()
	if no, e := s.Alloc(); no != 0 || e != need {
		t.Fatalf("Alloc: %d, error %d, not %d", no, e, need)
	}
}

func wantFree(t *testing.T, s *space.Space, no int, need api.Errno) {
	t.Helper()
	if e := s.Free(no); e != need {
		t.Fatalf("Free(%d): error %d, not %d", no, e, need)
	}
}

// wantTaken asks for Taken, and for Left.
func wantTaken(t *testing.T, s *space.Space, taken []int) {
	t.Helper()
	if l, e := s.Taken(); e != api.OK || !slices.Equal(l, taken) {
		t.Fatalf("Taken: %v, error %d, not %v", l, e, taken)
	}
	left := s.Pool().Count() - len(taken)
	if n, e := s.Left(); e != api.OK || n != left {
		t.Fatalf("Left: %d, error %d, not %d", n, e, left)
	}
}

func wantNoTaken(t *testing.T, s *space.Space, need api.Errno) {
	t.Helper()
	if l, e := s.Taken(); e != need || len(l) != 0 {
		t.Fatalf("Taken: %v, error %d, not %d", l, e, need)
	}
	if n, e := s.Left(); e != need || n != 0 {
		t.Fatalf("Left: %d, error %d, not %d", n, e, need)
	}
}

// wantFrames asks which pages are fresh, dirty and held.
func wantFrames(t *testing.T, p *pool.Pool, fresh, dirty, held []int) {
	t.Helper()
	if f, d, h := p.Fresh(), p.Dirty(), p.Held(); !slices.Equal(f, fresh) || !slices.Equal(d, dirty) || !slices.Equal(h, held) {
		t.Fatalf("fresh %v, dirty %v, held %v; not %v, %v, %v", f, d, h, fresh, dirty, held)
	}
}

// wantGivenUp asks which pages are given up, one behind the other, where others are got: the oldest first. The pages from spare on are laid, and not held.
func wantGivenUp(t *testing.T, p *pool.Pool, spare int, nos ...int) {
	t.Helper()
	for i, no := range nos {
		h := p.Held()
		wantGet(t, p, spare+i, plain(spare+i))
		if !slices.Contains(h, no) || slices.Contains(p.Held(), no) {
			t.Fatalf("held %v, then %v: the page %d of %v is to be given up", h, p.Held(), no, nos)
		}
	}
}

func wantGet(t *testing.T, p *pool.Pool, no int, need []byte) {
	t.Helper()
	if b, e := p.Get(no); e != api.OK || !bytes.Equal(b, need) {
		t.Fatalf("the page %d: %v, error %d, not %v", no, b, e, need)
	}
}

// wantMaps asks what the pool has as its maps.
func wantMaps(t *testing.T, p *pool.Pool, taken []int) {
	t.Helper()
	for k := range mapsOf(p.Count()) {
		wantGet(t, p, k, aMap(p.Count(), k, taken))
	}
}

func put(t *testing.T, p *pool.Pool, no int, b []byte) {
	t.Helper()
	if e := p.Put(no, b); e != api.OK {
		t.Fatalf("Put(%d): error %d", no, e)
	}
}

// putPlain puts pages that are no maps.
func putPlain(t *testing.T, p *pool.Pool, nos ...int) {
	t.Helper()
	for _, no := range nos {
		put(t, p, no, plain(no))
	}
}

// settle accepts and flushes.
func settle(t *testing.T, p *pool.Pool) {
	t.Helper()
	p.Accept()
	if e := p.Flush(); e != api.OK {
		t.Fatalf("Flush: error %d", e)
	}
}

// farNumbers are numbers that no page has, of a pool of n.
func farNumbers(n int) []int {
	return []int{-1, n, -2, n + 1, n + 7, -n, -1920, math.MinInt, math.MinInt + 1, math.MaxInt, math.MaxInt - 1, math.MinInt32, math.MaxInt32, 1 << 32, 1<<32 + n - 1, math.MaxInt - 4094}
}

// edges are how many pages pools have, at the maps' edges and at the bytes'.
func edges() []int {
	return []int{1, 2, 3, 4, 7, 8, 9, 15, 16, 17, 1912, 1913, 1919, 1920, 1921, 1922, 1928, 1929, 3839, 3840, 3841, 3842, 3848, 3849, 4095, 4096}
}

// P12.1

func TestExample(t *testing.T) {
	_, p := bare(t, 4, 2)
	s := format(t, p)
	wantAlloc(t, s, 1, 2, 3)
	wantNoAlloc(t, s, api.ErrFull)
	wantFree(t, s, 2, api.OK)
	wantAlloc(t, s, 2)
	wantFree(t, s, 0, api.ErrInvalid)
	wantTaken(t, s, []int{0, 1, 2, 3})
}

// How many maps there are, and how many bytes their cells have, written out.
func TestMapsAndTheirBytes(t *testing.T) {
	for n, sizes := range map[int][]int{
		1: {1}, 2: {1}, 7: {1}, 8: {1}, 9: {2}, 16: {2}, 17: {3}, 1912: {239}, 1913: {240}, 1919: {240}, 1920: {240},
		1921: {240, 1}, 1928: {240, 1}, 1929: {240, 2}, 3839: {240, 240}, 3840: {240, 240},
		3841: {240, 240, 1}, 3848: {240, 240, 1}, 3849: {240, 240, 2}, 4095: {240, 240, 32}, 4096: {240, 240, 32},
	} {
		_, p := bare(t, n, 4)
		s := format(t, p)
		if s.Maps() != len(sizes) || s.Pool() != p {
			t.Fatalf("%d pages: %d maps, not %d", n, s.Maps(), len(sizes))
		}
		for k, size := range sizes {
			first := make([]byte, size)
			if k == 0 {
				first[0] = []byte{0, 1, 3, 7}[len(sizes)]
			}
			wantGet(t, p, k, byWords(k, 2, string(first)))
		}
		wantFrames(t, p, upTo(len(sizes)), nil, upTo(len(sizes)))
		wantTaken(t, s, upTo(len(sizes)))
	}
}

// The bits of a byte, the lowest first, written out.
func TestBitsOfAMap(t *testing.T) {
	_, p := bare(t, 20, 1)
	s := format(t, p)
	for _, b := range []string{
		"\x03\x00\x00", "\x07\x00\x00", "\x0f\x00\x00", "\x1f\x00\x00", "\x3f\x00\x00", "\x7f\x00\x00", "\xff\x00\x00", "\xff\x01\x00", "\xff\x03\x00",
		"\xff\x07\x00", "\xff\x0f\x00", "\xff\x1f\x00", "\xff\x3f\x00", "\xff\x7f\x00", "\xff\xff\x00", "\xff\xff\x01", "\xff\xff\x03", "\xff\xff\x07", "\xff\xff\x0f",
	} {
		s.Alloc()
		wantGet(t, p, 0, byWords(0, 2, b))
	}
	wantNoAlloc(t, s, api.ErrFull)
	for _, x := range []struct {
		no int
		b  string
	}{{19, "\xff\xff\x07"}, {8, "\xff\xfe\x07"}, {15, "\xff\x7e\x07"}, {7, "\x7f\x7e\x07"}, {1, "\x7d\x7e\x07"}, {16, "\x7d\x7e\x06"}} {
		wantFree(t, s, x.no, api.OK)
		wantGet(t, p, 0, byWords(0, 2, x.b))
	}
	// In a later map the bits begin anew.
	_, p = bare(t, 1930, 3)
	put(t, p, 0, byWords(0, 2, string(bytes.Repeat([]byte{255}, 240))))
	put(t, p, 1, byWords(1, 2, "\x02\x00"))
	s = open(t, p)
	wantTaken(t, s, append(upTo(1920), 1921))
	wantAlloc(t, s, 1920, 1922)
	wantGet(t, p, 1, byWords(1, 2, "\x07\x00"))
	wantAlloc(t, s, from(1923, 1930)...)
	wantGet(t, p, 1, byWords(1, 2, "\xff\x03"))
	wantNoAlloc(t, s, api.ErrFull)
	wantFree(t, s, 1929, api.OK)
	wantGet(t, p, 1, byWords(1, 2, "\xff\x01"))
}

// Whatever a pool holds, and lies on its disk, is formatted: nothing is read, and no power is asked for.
func TestFormatOverAnything(t *testing.T) {
	for _, n := range edges() {
		d, p := bare(t, n, 9)
		maps := mapsOf(n)
		s := format(t, p)
		for no := maps; no < min(n, 9); no++ {
			wantAlloc(t, s, no)
		}
		p.Accept()
		put(t, p, 0, byWords(0, 9, "no map", "at all"))
		d.Cut(0)
		s = format(t, p)
		wantFrames(t, p, upTo(maps), upTo(maps), upTo(maps))
		wantMaps(t, p, upTo(maps))
		wantTaken(t, s, upTo(maps))
		s = format(t, p) // once more, over what is fresh
		wantFrames(t, p, upTo(maps), upTo(maps), upTo(maps))
		wantTaken(t, s, upTo(maps))
		if d.Steps() != 0 {
			t.Fatal("Format makes a step")
		}
	}
}

// Format leaves all other pages as they are.
func TestFormatPutsTheMapsAlone(t *testing.T) {
	for _, n := range []int{8, 1921, 3841} {
		d, p := laid(t, n, 8, upTo(10))
		putPlain(t, p, 5)
		p.Accept()
		putPlain(t, p, 6)
		wantGet(t, p, 7, plain(7))
		format(t, p)
		maps := mapsOf(n)
		wantFrames(t, p, append(upTo(maps), 6), []int{5}, append(upTo(maps), 5, 6, 7))
		settle(t, p)
		for i := range d.Size() - n {
			if b, _ := d.Read(i); !bytes.Equal(b, make([]byte, 256)) {
				t.Fatalf("the sector %d is written", i)
			}
		}
		wantMaps(t, over(t, d, n, 1), upTo(maps))
	}
}

// The maps are put rising: those ahead of the one that is refused stay put.
func TestFormatIsRefused(t *testing.T) {
	for _, x := range []struct{ n, frames, others, put int }{
		{8, 1, 1, 0}, {1920, 1, 1, 0}, {1920, 2, 2, 0},
		{1921, 1, 0, 1}, {1921, 1, 1, 0}, {1921, 2, 1, 1}, {1921, 2, 2, 0}, {3840, 5, 4, 1},
		{3841, 1, 0, 1}, {3841, 2, 0, 2}, {3841, 1, 1, 0}, {3841, 3, 1, 2}, {3841, 3, 2, 1}, {3841, 3, 3, 0}, {4096, 256, 254, 2},
	} {
		for _, dirty := range []bool{false, true} {
			d, p := bare(t, x.n, x.frames)
			others := from(4, 4+x.others)
			putPlain(t, p, others...)
			fresh, settled := others, []int(nil)
			if dirty {
				p.Accept()
				fresh, settled = nil, others
			}
			for range 2 {
				wantNoFormat(t, p, api.ErrBusy)
				wantFrames(t, p, append(upTo(x.put), fresh...), settled, append(upTo(x.put), others...))
				for k := range x.put {
					wantGet(t, p, k, aMap(x.n, k, upTo(mapsOf(x.n))))
				}
			}
			if d.Steps() != 0 {
				t.Fatal("Format makes a step")
			}
			// What was put may be dropped, or kept, and the maps be put once there are frames.
			if len(fresh) > 0 {
				continue
			}
			if n := p.Drop(); n != x.put {
				t.Fatalf("Drop: %d, not %d", n, x.put)
			}
			wantFrames(t, p, nil, settled, others)
			settle(t, p)
			if mapsOf(x.n) <= x.frames {
				wantTaken(t, format(t, p), upTo(mapsOf(x.n)))
			}
		}
	}
}

// Frames that are clean are given up, the oldest first.
func TestFormatGivesUpCleanFrames(t *testing.T) {
	_, p := laid(t, 3841, 5, upTo(3))
	for _, no := range []int{9, 5, 7, 6, 8} {
		wantGet(t, p, no, plain(no))
	}
	format(t, p)
	wantFrames(t, p, []int{0, 1, 2}, nil, []int{0, 1, 2, 6, 8})
	settle(t, p)
	wantGivenUp(t, p, 3, 6, 8, 0, 1, 2) // the maps were put rising
}

func TestNoPool(t *testing.T) {
	for _, p := range []*pool.Pool{nil, {}} {
		wantNoFormat(t, p, api.ErrNil)
		wantNoOpen(t, p, api.ErrNil)
	}
}

// noSpaces are what is nil, or no call made.
func noSpaces() []*space.Space { return []*space.Space{nil, {}, new(space.Space)} }

func TestNoSpace(t *testing.T) {
	for _, s := range noSpaces() {
		if s.Pool() != nil || s.Maps() != 0 {
			t.Fatalf("Pool: %v, Maps: %d", s.Pool(), s.Maps())
		}
		wantNoAlloc(t, s, api.ErrNil)
		wantNoTaken(t, s, api.ErrNil)
		for _, no := range append(farNumbers(4), 0, 1, 2, 3) {
			wantFree(t, s, no, api.ErrNil)
		}
	}
}

// Open gets each map, rising, and puts nothing.
func TestOpenGetsTheMapsRising(t *testing.T) {
	for _, x := range []struct {
		n, frames int
		held      []int
	}{
		{1, 1, []int{0}}, {20, 1, []int{0}}, {1920, 2, []int{0}}, {1921, 1, []int{1}}, {1921, 2, []int{0, 1}}, {3840, 1, []int{1}},
		{3841, 1, []int{2}}, {3841, 2, []int{1, 2}}, {3841, 3, []int{0, 1, 2}}, {3841, 9, []int{0, 1, 2}}, {4096, 2, []int{1, 2}},
	} {
		d, p := laid(t, x.n, x.frames, upTo(min(x.n, 6)))
		steps := d.Steps()
		s := open(t, p)
		if s.Maps() != mapsOf(x.n) || s.Pool() != p {
			t.Fatalf("%d pages: %d maps", x.n, s.Maps())
		}
		wantFrames(t, p, nil, nil, x.held)
		if len(x.held) == x.frames && x.n > 12 {
			wantGivenUp(t, p, 4, x.held...)
		}
		wantTaken(t, s, upTo(min(x.n, 6)))
		if d.Steps() != steps {
			t.Fatal("a step is made")
		}
	}
}

// The maps that are held are the younger for it, in that order.
func TestOpenOfMapsThatAreHeld(t *testing.T) {
	_, p := laid(t, 3841, 5, upTo(6))
	for _, no := range []int{2, 8, 1, 0} {
		p.Get(no)
	}
	wantGet(t, p, 9, plain(9))
	open(t, p)
	wantFrames(t, p, nil, nil, []int{0, 1, 2, 8, 9})
	wantGivenUp(t, p, 3, 8, 9, 0, 1, 2)
}

// wrongPages are pages that are not the k-th map of a pool of n.
func wrongPages(n, k int) map[string][]byte {
	all := cell(n, k, upTo(n))
	none := string(make([]byte, len(all)))
	first := cell(n, k, upTo(mapsOf(n)))
	l := map[string][]byte{
		"no cell":               byWords(k, 2),
		"a cell of no bytes":    byWords(k, 2, ""),
		"two cells":             byWords(k, 2, first[:len(first)/2], first[len(first)/2:]),
		"an empty cell ahead":   byWords(k, 2, "", first),
		"an empty cell behind":  byWords(k, 2, first, ""),
		"a byte too few":        byWords(k, 2, first[:len(first)-1]),
		"a byte too few, taken": byWords(k, 2, all[:len(all)-1]),
		"a byte too many":       byWords(k, 2, first+"\x00"),
		"a byte too many, 1":    byWords(k, 2, first+"\x01"),
		"twice":                 byWords(k, 2, (first + first)[:min(242, 2*len(first))]),
		"as many as have room":  byWords(k, 2, first+string(make([]byte, 242-len(first)))),
	}
	for _, kind := range []byte{1, 3, 4, 130, 255} {
		l[fmt.Sprint("of the kind ", kind)] = byWords(k, kind, first)
	}
	for bit := n - 1920*k; bit < 8*len(all); bit++ {
		for _, c := range []string{all, first, none} {
			b := []byte(c)
			b[bit/8] |= 1 << (bit % 8)
			l[fmt.Sprintf("the bit %d means no page, behind %d", bit, c[0])] = byWords(k, 2, string(b))
		}
	}
	if k == 0 {
		l["no map is taken"] = byWords(k, 2, none)
		for no := range mapsOf(n) {
			name := fmt.Sprintf("the map %d is not taken", no)
			l[name] = aMap(n, k, without(upTo(n), no))
			l[name+", others neither"] = aMap(n, k, without(upTo(mapsOf(n)), no))
		}
	}
	return l
}

// manyMaps are how many pages the pools have that wrong maps are put into.
func manyMaps() []int {
	return []int{2, 7, 8, 9, 20, 1919, 1920, 1921, 1927, 1928, 1930, 3840, 3841, 3847, 4095, 4096}
}

// A map that is none is refused by each call that asks it, and by no other one; those ahead of it stay got.
func TestWrongMaps(t *testing.T) {
	for _, n := range manyMaps() {
		maps := mapsOf(n)
		d, _ := laid(t, n, 1, upTo(maps))
		for k := range maps {
			for name, b := range wrongPages(n, k) {
				t.Run(fmt.Sprintf("%d pages, the map %d, %s", n, k, name), func(t *testing.T) {
					p := over(t, d, n, 6)
					s := spaceOver(t, p)
					put(t, p, k, b)
					wantNoOpen(t, p, api.ErrForm)
					wantFrames(t, p, []int{k}, nil, upTo(k+1)) // the ones behind it are not got
					wantNoTaken(t, s, api.ErrForm)
					wantFrames(t, p, []int{k}, nil, upTo(k+1))
					wantFree(t, s, min(n, 1920*k+1920)-1, api.ErrForm)
					wantGet(t, p, k, b)
					if k == 0 {
						wantNoAlloc(t, s, api.ErrForm)
					} else { // a page is left in the first map
						wantAlloc(t, s, maps)
						wantFree(t, s, maps, api.OK)
					}
				})
			}
		}
	}
}

// Alloc asks a later map where all pages of those ahead are taken; then it is refused.
func TestAllocOfWrongMaps(t *testing.T) {
	for _, n := range []int{1921, 1930, 3840, 3841, 4095} {
		for k := 1; k < mapsOf(n); k++ {
			d, _ := laid(t, n, 1, upTo(1920*k))
			for name, b := range wrongPages(n, k) {
				t.Run(fmt.Sprintf("%d pages, the map %d, %s", n, k, name), func(t *testing.T) {
					p := over(t, d, n, 3)
					s := open(t, p)
					put(t, p, k, b)
					wantNoAlloc(t, s, api.ErrForm)
					wantFrames(t, p, []int{k}, nil, upTo(mapsOf(n)))
					wantGet(t, p, k, b)
					wantFree(t, s, 5, api.OK) // by another map
					wantAlloc(t, s, 5)
					wantNoAlloc(t, s, api.ErrForm)
					p.Drop()
					wantAlloc(t, s, 1920*k)
				})
			}
		}
	}
}

// A map may have whatever bits mean pages.
func TestRightMaps(t *testing.T) {
	for _, n := range edges() {
		for _, taken := range [][]int{upTo(mapsOf(n)), upTo(n), without(upTo(n), n-1), append(upTo(mapsOf(n)), from(max(n-1, mapsOf(n)), n)...)} {
			if !slices.Contains(taken, mapsOf(n)-1) { // of one page
				continue
			}
			_, p := laid(t, n, 2, taken)
			wantTaken(t, open(t, p), taken)
		}
	}
}

// badSectors are what a sector may have that is not the page k, and what is refused of it.
func badSectors(n, k int, taken []int) map[string]struct {
	b []byte
	e api.Errno
} {
	right := sealed(aMap(n, k, taken))
	spoilt := slices.Clone(right)
	spoilt[10] ^= 64
	torn := append(slices.Clone(right[:128]), make([]byte, 128)...)
	return map[string]struct {
		b []byte
		e api.Errno
	}{
		"never written": {make([]byte, 256), api.ErrSum},
		"spoilt":        {spoilt, api.ErrSum},
		"torn":          {torn, api.ErrSum},
		"not sealed":    {aMap(n, k, taken), api.ErrSum},
		"no page":       {sealed(byWords(k, 0, "x")), api.ErrForm},
		"another page":  {sealed(append([]byte{0, 0, 0, byte(k) + 1}, right[4:]...)), api.ErrStale},
		"a far page":    {sealed(append([]byte{0, 1, 0, byte(k)}, right[4:]...)), api.ErrStale},
		"another map":   {sealed(aMap(n, (k+1)%3, taken)), api.ErrStale},
	}
}

func TestMapsWhoseSectorsAreBad(t *testing.T) {
	for _, n := range []int{9, 1920, 1930, 3841, 4096} {
		maps := mapsOf(n)
		for k := range maps {
			taken := upTo(max(maps, 1920*k))
			for name, x := range badSectors(n, k, taken) {
				t.Run(fmt.Sprintf("%d pages, the map %d, %s", n, k, name), func(t *testing.T) {
					d, p := laid(t, n, 4, taken)
					lay(t, d, n, k, x.b)
					wantNoOpen(t, p, x.e)
					wantFrames(t, p, nil, nil, upTo(k))
					p = over(t, d, n, 4)
					s := spaceOver(t, p)
					wantNoTaken(t, s, x.e)
					wantFrames(t, p, nil, nil, upTo(k))
					wantNoAlloc(t, s, x.e)
					wantFree(t, s, min(n, 1920*k+1920)-1, x.e)
					wantFree(t, s, k, api.ErrInvalid)
					wantFrames(t, p, nil, nil, upTo(k))
					if k > 0 {
						wantFree(t, s, 1919, api.OK) // its map is another one
						wantFrames(t, p, []int{0}, nil, upTo(k))
						wantAlloc(t, s, 1919)
						wantNoAlloc(t, s, x.e)
					}
					format(t, p)
					wantTaken(t, s, upTo(maps))
				})
			}
		}
	}
}

// Map by map: of several maps that are refused the first one's error is told.
func TestTheFirstMapThatIsRefused(t *testing.T) {
	wrong := sealed(byWords(1, 9, "none"))
	for _, x := range []struct {
		bad map[int][]byte
		e   api.Errno
	}{
		{map[int][]byte{0: sealed(byWords(0, 9, "none")), 1: make([]byte, 256)}, api.ErrForm},
		{map[int][]byte{0: make([]byte, 256), 1: wrong}, api.ErrSum},
		{map[int][]byte{0: wrong, 1: wrong, 2: make([]byte, 256)}, api.ErrStale},
		{map[int][]byte{1: wrong, 2: make([]byte, 256)}, api.ErrForm},
		{map[int][]byte{1: make([]byte, 256), 2: wrong}, api.ErrSum},
		{map[int][]byte{1: sealed(byWords(2, 2, "x")), 2: make([]byte, 256)}, api.ErrStale},
		{map[int][]byte{2: wrong}, api.ErrStale},
	} {
		d, p := laid(t, 4000, 3, upTo(3840))
		for k, b := range x.bad {
			lay(t, d, 4000, k, b)
		}
		s := spaceOver(t, p)
		wantNoOpen(t, p, x.e)
		wantNoTaken(t, s, x.e)
		wantNoAlloc(t, s, x.e)
		for k, b := range x.bad {
			if k == 2 && bytes.Equal(b, wrong) {
				wantFree(t, s, 3840, api.ErrStale) // its own map counts alone
			} else if k == 2 {
				wantFree(t, s, 3840, api.ErrSum)
			}
		}
	}
}

// Without power, or without a frame

// calls are all calls of a space that ask a map, of a pool of one.
func calls(t *testing.T, s *space.Space, need api.Errno) {
	t.Helper()
	wantNoOpen(t, s.Pool(), need)
	wantNoAlloc(t, s, need)
	wantNoTaken(t, s, need)
	wantFree(t, s, 5, need)
	for _, no := range append(farNumbers(s.Pool().Count()), 0) {
		wantFree(t, s, no, api.ErrInvalid)
	}
}

// What is held needs no power; what is not does, and no call makes a step.
func TestWithoutPower(t *testing.T) {
	d, p := laid(t, 20, 3, upTo(7))
	s := open(t, p)
	d.Cut(0)
	wantAlloc(t, s, 7)
	wantTaken(t, open(t, p), upTo(8))
	wantFree(t, s, 5, api.OK)
	wantFree(t, s, 5, api.ErrNone)
	wantAlloc(t, s, 5)
	wantTaken(t, s, upTo(8))
	p.Drop() // the map is not held any more
	steps := d.Steps()
	calls(t, s, api.ErrDown)
	wantFrames(t, p, nil, nil, nil)
	s = format(t, p)
	wantAlloc(t, s, 1)
	wantTaken(t, s, []int{0, 1})
	if d.Steps() != steps || p.Accept() != 1 || p.Flush() != api.ErrDown {
		t.Fatal("something is written")
	}
	wantTaken(t, s, []int{0, 1})
}

// The power is cut ahead of each call, with some of three maps held.
func TestWithoutPowerWithSomeMapsHeld(t *testing.T) {
	for held := range 8 {
		for full := range 3 { // so many maps are full
			cut := func() (*pool.Pool, *space.Space) {
				d, p := laid(t, 4000, 5, upTo(max(3, 1920*full)))
				s := spaceOver(t, p)
				for k := range 3 {
					if held>>k&1 == 1 {
						p.Get(k)
					}
				}
				d.Cut(0)
				return p, s
			}
			has := func(k int) bool { return held>>k&1 == 1 }
			all := has(0) && has(1) && has(2)
			p, s := cut()
			h := p.Held()
			if all {
				open(t, p)
				wantTaken(t, s, upTo(max(3, 1920*full)))
			} else {
				wantNoOpen(t, p, api.ErrDown)
				wantNoTaken(t, s, api.ErrDown)
			}
			wantFrames(t, p, nil, nil, h)
			right := true
			for k := range full + 1 {
				right = right && has(k)
			}
			if right {
				wantAlloc(t, s, max(3, 1920*full))
				wantFrames(t, p, []int{full}, nil, h)
			} else {
				wantNoAlloc(t, s, api.ErrDown)
				wantFrames(t, p, nil, nil, h)
			}
			for k := range 3 {
				p, s = cut()
				no := 1920*k + 100
				switch {
				case !has(k):
					wantFree(t, s, no, api.ErrDown)
				case k < full:
					wantFree(t, s, no, api.OK)
				default:
					wantFree(t, s, no, api.ErrNone)
				}
				if has(k) && k < full {
					wantFrames(t, p, []int{k}, nil, h)
				} else {
					wantFrames(t, p, nil, nil, h)
				}
			}
			p, _ = cut()
			wantTaken(t, format(t, p), upTo(3))
			wantFrames(t, p, upTo(3), nil, upTo(3))
		}
	}
}

// All frames are fresh, or dirty, with other pages: no map can be got.
func TestNoFrame(t *testing.T) {
	for _, frames := range []int{1, 2, 5} {
		for _, dirty := range []bool{false, true} {
			d, p := laid(t, 20, frames, upTo(7))
			s := spaceOver(t, p)
			putPlain(t, p, from(2, 2+frames)...)
			fresh, settled := from(2, 2+frames), []int(nil)
			if dirty {
				p.Accept()
				fresh, settled = settled, fresh
			}
			calls(t, s, api.ErrBusy)
			wantNoFormat(t, p, api.ErrBusy)
			wantFrames(t, p, fresh, settled, from(2, 2+frames))
			lay(t, d, 20, 0, make([]byte, 256))
			calls(t, s, api.ErrBusy) // ahead of what the sector, and the disk, refuse
			d.Cut(0)
			calls(t, s, api.ErrBusy)
			wantFrames(t, p, fresh, settled, from(2, 2+frames))
			wantNoAlloc(t, s, api.ErrBusy)
		}
	}
}

// With one frame that is clean, all maps are got one behind the other; once one is put, no other one can be.
func TestOneFrameForThreeMaps(t *testing.T) {
	taken := upTo(3840)
	d, p := laid(t, 4000, 2, taken)
	putPlain(t, p, 7)
	p.Accept()
	s := open(t, p)
	wantFrames(t, p, nil, []int{7}, []int{2, 7})
	wantTaken(t, s, taken)
	wantFrames(t, p, nil, []int{7}, []int{2, 7})
	wantAlloc(t, s, 3840)
	wantFrames(t, p, []int{2}, []int{7}, []int{2, 7})
	wantNoAlloc(t, s, api.ErrBusy) // it asks the first map again
	wantNoTaken(t, s, api.ErrBusy)
	wantNoOpen(t, p, api.ErrBusy)
	wantFree(t, s, 100, api.ErrBusy)
	wantFree(t, s, 2000, api.ErrBusy)
	wantFree(t, s, 3841, api.ErrNone)
	wantFree(t, s, 3840, api.OK) // its own map is held
	wantNoFormat(t, p, api.ErrBusy)
	wantFrames(t, p, []int{2}, []int{7}, []int{2, 7})
	p.Drop()
	wantFrames(t, p, nil, []int{7}, []int{7})
	wantFree(t, s, 2000, api.OK)
	wantFrames(t, p, []int{1}, []int{7}, []int{1, 7})
	wantNoAlloc(t, s, api.ErrBusy)
	p.Accept()
	wantNoAlloc(t, s, api.ErrBusy)
	settle(t, p)
	wantAlloc(t, s, 2000)
	settle(t, p)
	wantTaken(t, open(t, over(t, d, 4000, 1)), taken)
}
