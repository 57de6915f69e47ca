package pool_test

import (
	"bytes"
	"hash/crc32"
	"math"
	"slices"
	"testing"

	"tabulary/api"
	"tabulary/disk"
	"tabulary/pool"
)

// byWords is chapter 9's words, byte by byte: a page that is not sealed.
func byWords(no int, kind byte, cells ...string) []byte {
	b := []byte{byte(no >> 24), byte(no >> 16), byte(no >> 8), byte(no), kind, byte(len(cells))}
	var ends, all []byte
	for _, c := range cells {
		all = append(all, c...)
		ends = append(ends, byte(len(all)>>8), byte(len(all)))
	}
	b = append(b, byte(len(all)>>8), byte(len(all)))
	b = append(append(b, ends...), all...)
	return append(b, make([]byte, 256-len(b))...)
}

// with is a page of the kind 1 with one cell.
func with(no int, s string) []byte { return byWords(no, 1, s) }

// sealed is a page with the sum of its first 252 bytes in the last four, the lowest first.
func sealed(b []byte) []byte {
	s := crc32.ChecksumIEEE(b[:252])
	return append(slices.Clone(b[:252]), byte(s), byte(s>>8), byte(s>>16), byte(s>>24))
}

// lastNoughts is a page as it is held: what stands in its last four bytes does not count.
func lastNoughts(b []byte) []byte { return append(slices.Clone(b[:252]), 0, 0, 0, 0) }

func newDisk(t *testing.T, n int) *disk.Disk {
	t.Helper()
	d, e := disk.New(n)
	if e != api.OK {
		t.Fatalf("New(%d): error %d", n, e)
	}
	return d
}

// lay writes a sector, and syncs.
func lay(t *testing.T, d *disk.Disk, i int, b []byte) {
	t.Helper()
	if d.Write(i, b) != api.OK || d.Sync() != api.OK {
		t.Fatalf("sector %d is not written", i)
	}
}

// laid is a disk with n pages from a sector on, each with its number as a cell, and two sectors behind them.
func laid(t *testing.T, from, n int) *disk.Disk {
	t.Helper()
	d := newDisk(t, from+n+2)
	for no := range n {
		lay(t, d, from+no, sealed(first(no)))
	}
	return d
}

// first is what laid lays.
func first(no int) []byte { return byWords(no, 7, "first", string(rune('a'+no%26))) }

func open(t *testing.T, d *disk.Disk, from, count, frames int) *pool.Pool {
	t.Helper()
	p, e := pool.Open(d, from, count, frames)
	if e != api.OK || p == nil {
		t.Fatalf("Open(%d, %d, %d): error %d", from, count, frames, e)
	}
	return p
}

func wantNoPool(t *testing.T, d *disk.Disk, from, count, frames int, need api.Errno) {
	t.Helper()
	if p, e := pool.Open(d, from, count, frames); e != need || p != nil {
		t.Fatalf("Open(%d, %d, %d): %v, error %d, not %d", from, count, frames, p, e, need)
	}
}

func wantGet(t *testing.T, p *pool.Pool, no int, need []byte) {
	t.Helper()
	if b, e := p.Get(no); e != api.OK || !bytes.Equal(b, need) {
		t.Fatalf("Get(%d): %v, error %d, not %v", no, b, e, need)
	}
}

func wantNoGet(t *testing.T, p *pool.Pool, no int, need api.Errno) {
	t.Helper()
	if b, e := p.Get(no); e != need || len(b) != 0 {
		t.Fatalf("Get(%d): %v, error %d, not %d", no, b, e, need)
	}
}

func wantPut(t *testing.T, p *pool.Pool, no int, b []byte, need api.Errno) {
	t.Helper()
	if e := p.Put(no, b); e != need {
		t.Fatalf("Put(%d): error %d, not %d", no, e, need)
	}
}

// puts puts pages, each with the same cell.
func puts(t *testing.T, p *pool.Pool, s string, nos ...int) {
	t.Helper()
	for _, no := range nos {
		wantPut(t, p, no, with(no, s), api.OK)
	}
}

// gets gets pages that were laid.
func gets(t *testing.T, p *pool.Pool, nos ...int) {
	t.Helper()
	for _, no := range nos {
		wantGet(t, p, no, first(no))
	}
}

func wantAccept(t *testing.T, p *pool.Pool, need int) {
	t.Helper()
	if n := p.Accept(); n != need {
		t.Fatalf("Accept: %d, not %d", n, need)
	}
}

func wantDrop(t *testing.T, p *pool.Pool, need int) {
	t.Helper()
	if n := p.Drop(); n != need {
		t.Fatalf("Drop: %d, not %d", n, need)
	}
}

func wantFlush(t *testing.T, p *pool.Pool, need api.Errno) {
	t.Helper()
	if e := p.Flush(); e != need {
		t.Fatalf("Flush: error %d, not %d", e, need)
	}
}

// wantFrames asks which pages are fresh, dirty and held.
func wantFrames(t *testing.T, p *pool.Pool, fresh, dirty, held []int) {
	t.Helper()
	if f, d, h := p.Fresh(), p.Dirty(), p.Held(); !slices.Equal(f, fresh) || !slices.Equal(d, dirty) || !slices.Equal(h, held) {
		t.Fatalf("fresh %v, dirty %v, held %v; not %v, %v, %v", f, d, h, fresh, dirty, held)
	}
}

// wantAges asks in which order the pages of a pool whose frames are all clean, and all hold one, are given up: the oldest first. The pages from spare on are not held.
func wantAges(t *testing.T, p *pool.Pool, spare int, order ...int) {
	t.Helper()
	held := p.Held()
	if len(held) != len(order) {
		t.Fatalf("held %v, and %v are to be given up", held, order)
	}
	for i, no := range order {
		gets(t, p, spare+i)
		if slices.Contains(p.Held(), no) || !slices.Contains(held, no) {
			t.Fatalf("held %v, then %v: the page %d is not given up; the order is %v", held, p.Held(), no, order)
		}
		held = p.Held()
	}
}

// wantSector asks what a sector has.
func wantSector(t *testing.T, d *disk.Disk, i int, need []byte) {
	t.Helper()
	if b, e := d.Read(i); e != api.OK || !bytes.Equal(b, need) {
		t.Fatalf("sector %d (error %d): %v, not %v", i, e, b, need)
	}
}

// farNumbers are numbers that no page has, of a pool with n of them.
func farNumbers(n int) []int {
	return []int{-1, n, -2, n + 1, -n, math.MinInt, math.MinInt + 1, math.MaxInt, math.MaxInt - 1, math.MinInt32, math.MaxInt32, 1 << 32, 1<<32 + 1}
}

// P11.1

func TestExample(t *testing.T) {
	d := laid(t, 0, 4)
	steps := d.Steps()
	p := open(t, d, 0, 4, 2)
	puts(t, p, "a", 0, 1)
	wantNoGet(t, p, 2, api.ErrBusy)
	wantAccept(t, p, 2)
	wantNoGet(t, p, 2, api.ErrBusy)
	wantFlush(t, p, api.OK)
	if d.Steps() != steps+3 {
		t.Fatalf("Flush: %d steps", d.Steps()-steps)
	}
	wantFrames(t, p, nil, nil, []int{0, 1})
	gets(t, p, 2)
	wantFrames(t, p, nil, nil, []int{1, 2})
}

func TestOpenOfNoDisk(t *testing.T) {
	for _, d := range []*disk.Disk{nil, {}} {
		for _, from := range []int{0, -1, 1, math.MinInt, math.MaxInt} {
			for _, count := range []int{1, 0, -1, 4096, 4097, math.MinInt, math.MaxInt} {
				for _, frames := range []int{1, 0, -1, 256, 257, math.MinInt, math.MaxInt} {
					wantNoPool(t, d, from, count, frames, api.ErrNil)
				}
			}
		}
	}
}

func TestOpenOfPlaces(t *testing.T) {
	for _, size := range []int{1, 2, 5, 255, 256, 257, 4095, 4096} {
		d := newDisk(t, size)
		for _, from := range []int{0, 1, 2, size - 2, size - 1, size, size + 1, 4095, 4096, -1, -2, -size, math.MinInt, math.MinInt + 1, math.MaxInt, math.MaxInt - 1, math.MaxInt32} {
			counts := []int{0, 1, 2, size - 1, size, size + 1, 4095, 4096, 4097, -1, math.MinInt, math.MaxInt, math.MaxInt - 1, math.MaxInt32, 1 << 32}
			if from >= 0 && from <= size {
				counts = append(counts, size-from-1, size-from, size-from+1)
			}
			for _, count := range counts {
				for _, frames := range []int{0, 1, 2, 128, 255, 256, 257, 512, -1, -256, math.MinInt, math.MaxInt} {
					right := from >= 0 && from < size && count >= 1 && count <= 4096 && from+count <= size && frames >= 1 && frames <= 256
					if !right {
						wantNoPool(t, d, from, count, frames, api.ErrInvalid)
						continue
					}
					p := open(t, d, from, count, frames)
					if p.Count() != count {
						t.Fatalf("Count: %d, not %d", p.Count(), count)
					}
					wantFrames(t, p, nil, nil, nil)
				}
			}
		}
		if d.Steps() != 0 {
			t.Fatal("Open makes a step")
		}
	}
}

// A pool is opened over whatever there is: nothing is read.
func TestOpenReadsNothing(t *testing.T) {
	d := newDisk(t, 4)
	lay(t, d, 2, bytes.Repeat([]byte{9}, 256))
	d.Cut(0)
	p := open(t, d, 1, 3, 2)
	if p.Count() != 3 {
		t.Fatalf("Count: %d", p.Count())
	}
	wantFrames(t, p, nil, nil, nil)
	wantNoPool(t, d, 1, 4, 2, api.ErrInvalid)
}

// As many pages, and as many frames, as there may be.
func TestAllPagesAndFrames(t *testing.T) {
	d := newDisk(t, 4096)
	p := open(t, d, 0, 4096, 256)
	for no := range 4096 {
		if no > 0 && no%256 == 0 {
			wantPut(t, p, no, with(no, "x"), api.ErrBusy)
			wantAccept(t, p, 256)
			wantPut(t, p, no, with(no, "x"), api.ErrBusy)
			wantFlush(t, p, api.OK)
		}
		wantPut(t, p, no, with(no, "x"), api.OK)
	}
	wantAccept(t, p, 256)
	wantFlush(t, p, api.OK)
	if d.Steps() != 4096+16 || p.Count() != 4096 {
		t.Fatalf("%d steps, %d pages", d.Steps(), p.Count())
	}
	q := open(t, d, 0, 4096, 1)
	for no := range 4096 {
		wantGet(t, q, no, with(no, "x"))
		wantFrames(t, q, nil, nil, []int{no})
	}
}

func TestNoPool(t *testing.T) {
	for _, p := range []*pool.Pool{nil, {}} {
		for _, no := range append(farNumbers(1), 0, 1) {
			wantNoGet(t, p, no, api.ErrNil)
			for _, b := range [][]byte{nil, {}, with(0, "a"), with(1, "a"), make([]byte, 256)} {
				wantPut(t, p, no, b, api.ErrNil)
			}
		}
		if p.Count() != 0 {
			t.Fatalf("Count: %d", p.Count())
		}
		wantFrames(t, p, nil, nil, nil)
		wantAccept(t, p, 0)
		wantDrop(t, p, 0)
		wantFlush(t, p, api.ErrNil)
	}
}

// P11.2

func TestGetOfNumbers(t *testing.T) {
	d := laid(t, 3, 5)
	p := open(t, d, 3, 5, 2)
	for _, no := range []int{0, 4, 2, 1, 3} {
		wantGet(t, p, no, first(no))
	}
	for _, no := range farNumbers(5) {
		wantNoGet(t, p, no, api.ErrInvalid)
	}
	wantFrames(t, p, nil, nil, []int{1, 3})
	puts(t, p, "x", 0, 2) // no room is left
	for _, no := range farNumbers(5) {
		wantNoGet(t, p, no, api.ErrInvalid)
	}
	d.Cut(0)
	for _, no := range farNumbers(5) {
		wantNoGet(t, p, no, api.ErrInvalid)
	}
	wantFrames(t, p, []int{0, 2}, nil, []int{0, 2})
}

// badSectors are what a sector may have that is not the page 2, and what is refused of it.
func badSectors() map[string]struct {
	b []byte
	e api.Errno
} {
	type bad = struct {
		b []byte
		e api.Errno
	}
	right := sealed(with(2, "abc"))
	changed := func(at int, b byte) []byte {
		s := slices.Clone(right)
		s[at] ^= b
		return s
	}
	return map[string]bad{
		"never written":          {make([]byte, 256), api.ErrSum},
		"ones":                   {bytes.Repeat([]byte{255}, 256), api.ErrSum},
		"not sealed":             {with(2, "abc"), api.ErrSum},
		"its number spoilt":      {changed(3, 1), api.ErrSum},
		"its kind spoilt":        {changed(4, 128), api.ErrSum},
		"a cell spoilt":          {changed(11, 4), api.ErrSum},
		"its noughts spoilt":     {changed(251, 1), api.ErrSum},
		"its sum spoilt":         {changed(252, 1), api.ErrSum},
		"its sum's end spoilt":   {changed(255, 128), api.ErrSum},
		"torn":                   {append(slices.Clone(right[:11]), sealed(with(2, "xyz"))[11:]...), api.ErrSum},
		"the kind 0":             {sealed(byWords(2, 0, "abc")), api.ErrForm},
		"a byte behind":          {sealed(append(slices.Clone(right[:251]), 1, 0, 0, 0, 0)), api.ErrForm},
		"no page, another one":   {sealed(byWords(3, 0, "abc")), api.ErrForm},
		"noughts with their sum": {sealed(make([]byte, 256)), api.ErrForm},
		"another page":           {sealed(with(3, "abc")), api.ErrStale},
		"the page 0":             {sealed(with(0, "abc")), api.ErrStale},
		"its sector's number":    {sealed(with(5, "abc")), api.ErrStale},
		"the greatest number":    {sealed(with(math.MaxInt32, "abc")), api.ErrStale},
		"256 more":               {sealed(with(258, "abc")), api.ErrStale},
	}
}

func TestGetOfASectorThatIsNotThePage(t *testing.T) {
	for name, x := range badSectors() {
		d := laid(t, 3, 5)
		lay(t, d, 5, x.b)
		steps := d.Steps()
		p := open(t, d, 3, 5, 2)
		wantNoGet(t, p, 2, x.e)
		wantFrames(t, p, nil, nil, nil)
		gets(t, p, 3, 1, 3) // the page 1 is the oldest
		for range 3 {
			if b, e := p.Get(2); e != x.e || len(b) != 0 {
				t.Fatalf("%s: %v, error %d, not %d", name, b, e, x.e)
			}
			wantFrames(t, p, nil, nil, []int{1, 3})
		}
		gets(t, p, 0)
		wantFrames(t, p, nil, nil, []int{0, 3})
		if d.Steps() != steps {
			t.Fatal("Get makes a step")
		}
		lay(t, d, 5, sealed(with(2, "right"))) // what was refused is not held
		wantGet(t, p, 2, with(2, "right"))
		wantFrames(t, p, nil, nil, []int{0, 2})
	}
}

func TestGetOfEachByteSpoilt(t *testing.T) {
	d := laid(t, 1, 2)
	p := open(t, d, 1, 2, 2)
	for at := range 256 {
		for _, bit := range []byte{1, 16, 128} {
			s := sealed(first(1))
			d.Spoil(2, at, s[at]^bit)
			wantNoGet(t, p, 1, api.ErrSum)
			d.Spoil(2, at, s[at])
		}
	}
	wantFrames(t, p, nil, nil, nil)
	gets(t, p, 1)
}

// A page that is held is told as it is held, whatever lies on the disk, and whether there is power.
func TestGetOfWhatIsHeld(t *testing.T) {
	d := laid(t, 1, 4)
	p := open(t, d, 1, 4, 3)
	gets(t, p, 0)
	puts(t, p, "x", 1)
	wantAccept(t, p, 1)
	puts(t, p, "y", 2)
	ask := func() {
		gets(t, p, 0)
		wantGet(t, p, 1, with(1, "x"))
		wantGet(t, p, 2, with(2, "y"))
		wantFrames(t, p, []int{2}, []int{1}, []int{0, 1, 2})
	}
	ask()
	for no := range 3 {
		lay(t, d, 1+no, sealed(with(no, "another")))
	}
	ask()
	for no := range 3 {
		d.Spoil(1+no, 9, 77)
	}
	ask()
	d.Cut(0)
	ask()
	wantNoGet(t, p, 3, api.ErrDown)
	ask()
}

func TestGetWithoutPower(t *testing.T) {
	for _, cut := range []int{0, 1, 2} {
		d := laid(t, 1, 4)
		p := open(t, d, 1, 4, 2)
		gets(t, p, 1, 0)
		steps := d.Steps()
		d.Cut(cut)
		if cut > 0 { // a Read is no step: the power stays on
			gets(t, p, 2, 3, 1)
			wantFrames(t, p, nil, nil, []int{1, 3})
		} else {
			wantNoGet(t, p, 2, api.ErrDown)
			wantNoGet(t, p, 3, api.ErrDown)
			wantFrames(t, p, nil, nil, []int{0, 1})
		}
		if d.Steps() != steps {
			t.Fatal("Get makes a step")
		}
	}
	// A Get that is refused leaves the ages as they were.
	on := laid(t, 1, 4)
	p := open(t, on, 1, 4, 2)
	gets(t, p, 1, 0)
	back, _ := on.Lose(api.Loss{Torn: -1})
	on.Cut(0)
	wantNoGet(t, p, 2, api.ErrDown)
	*on = *back
	wantAges(t, p, 2, 1, 0)
}

// ErrBusy is told ahead of what the disk, and the sector, refuse.
func TestGetTellsTheErrorThatIsNamedFirst(t *testing.T) {
	d := laid(t, 1, 4)
	p := open(t, d, 1, 4, 1)
	puts(t, p, "x", 0)
	for _, accepted := range []int{1, 0} {
		for _, no := range []int{1, 2, 3} {
			wantNoGet(t, p, no, api.ErrBusy)
			wantFrames(t, p, []int{0}[1-accepted:], []int{0}[accepted:], []int{0})
		}
		if accepted == 1 {
			wantAccept(t, p, 1)
		}
	}
	lay(t, d, 2, make([]byte, 256))
	wantNoGet(t, p, 1, api.ErrBusy)
	d.Cut(0)
	wantNoGet(t, p, 1, api.ErrBusy)
	wantNoGet(t, p, 2, api.ErrBusy)
	wantNoGet(t, p, 4, api.ErrInvalid)
	// With room the power is asked ahead of the sector.
	d = newDisk(t, 4)
	p = open(t, d, 1, 3, 1)
	wantNoGet(t, p, 1, api.ErrSum)
	d.Cut(0)
	wantNoGet(t, p, 1, api.ErrDown)
}

// What another one wrote is got, though it waits.
func TestGetOfWhatWaits(t *testing.T) {
	d := laid(t, 1, 2)
	d.Write(2, sealed(with(1, "waits")))
	p := open(t, d, 1, 2, 2)
	wantGet(t, p, 1, with(1, "waits"))
	gets(t, p, 0)
	if !slices.Equal(d.Pending(), []int{2}) {
		t.Fatal("Get syncs")
	}
}

func TestGetKeepsToItsOwnMemory(t *testing.T) {
	d := laid(t, 1, 3)
	p := open(t, d, 1, 3, 3)
	puts(t, p, "x", 1)
	wantAccept(t, p, 1)
	puts(t, p, "y", 2)
	need := [][]byte{first(0), with(1, "x"), with(2, "y")}
	for range 2 {
		for no := range 3 { // the page 0 is read anew at first, and held then
			b, e := p.Get(no)
			if e != api.OK || !bytes.Equal(b, need[no]) {
				t.Fatalf("Get(%d): %v, error %d", no, b, e)
			}
			b = b[:cap(b)]
			for i := range b {
				b[i] = 99
			}
			wantGet(t, p, no, need[no])
		}
	}
	wantSector(t, d, 1, sealed(first(0)))
	wantDrop(t, p, 1)
	wantFlush(t, p, api.OK)
	wantSector(t, d, 2, sealed(with(1, "x")))
}

// P11.3

func TestPutOfNumbers(t *testing.T) {
	d := laid(t, 3, 5)
	p := open(t, d, 3, 5, 2)
	puts(t, p, "x", 0, 4)
	for _, no := range farNumbers(5) {
		wantPut(t, p, no, with(4, "y"), api.ErrInvalid)
		wantPut(t, p, no, byWords(no, 1, "y"), api.ErrInvalid)
		wantPut(t, p, no, nil, api.ErrInvalid)
		wantPut(t, p, no, make([]byte, 256), api.ErrInvalid)
	}
	wantFrames(t, p, []int{0, 4}, nil, []int{0, 4})
	wantGet(t, p, 0, with(0, "x"))
	wantGet(t, p, 4, with(4, "x"))
}

// noPages are bytes that are no page; the number of each, where there is one, is 1.
func noPages() [][]byte {
	right := with(1, "abc")
	changed := func(at int, b byte) []byte {
		s := slices.Clone(right)
		s[at] = b
		return s
	}
	return [][]byte{
		nil,
		{},
		{1},
		[]byte("x"),
		right[:255],
		append(slices.Clone(right), 0),
		append(slices.Clone(right), right...),
		make([]byte, 256),
		bytes.Repeat([]byte{255}, 256),
		byWords(1, 0, "abc"),
		changed(0, 128), // a number above the greatest one
		changed(5, 0),
		changed(5, 2),
		changed(5, 255),
		changed(6, 1),
		changed(7, 2),
		changed(7, 4),
		changed(9, 2),
		changed(9, 4),
		changed(13, 1),
		changed(251, 1),
	}
}

func TestPutOfNoPage(t *testing.T) {
	for _, b := range noPages() {
		d := laid(t, 1, 4)
		p := open(t, d, 1, 4, 2)
		ask := func(need api.Errno) {
			f, y, h := p.Fresh(), p.Dirty(), p.Held()
			for _, no := range []int{0, 1, 2, 3} { // ahead of another number, and of no room
				wantPut(t, p, no, b, need)
			}
			wantPut(t, p, 4, b, api.ErrInvalid)
			wantFrames(t, p, f, y, h)
		}
		ask(api.ErrForm)
		gets(t, p, 1, 0)
		ask(api.ErrForm)
		wantGet(t, p, 1, first(1))
		wantGet(t, p, 0, first(0))
		puts(t, p, "x", 1)
		ask(api.ErrForm)
		puts(t, p, "x", 0)
		ask(api.ErrForm)
		wantAccept(t, p, 2)
		ask(api.ErrForm)
		wantGet(t, p, 1, with(1, "x"))
		wantGet(t, p, 0, with(0, "x"))
		d.Cut(0)
		ask(api.ErrForm)
	}
}

func TestPutOfAnotherNumber(t *testing.T) {
	d := laid(t, 1, 4)
	p := open(t, d, 1, 4, 2)
	ask := func() {
		f, y, h := p.Fresh(), p.Dirty(), p.Held()
		for no := range 4 {
			for _, n := range []int{0, 1, 2, 3, 4, no + 1, no + 256, no + 1<<16, no + 1<<24, math.MaxInt32} { // its sector's, too
				if n != no {
					wantPut(t, p, no, with(n, "z"), api.ErrStale)
				}
			}
		}
		wantPut(t, p, 4, with(4, "z"), api.ErrInvalid)
		wantFrames(t, p, f, y, h)
	}
	ask()
	puts(t, p, "x", 0, 3)
	ask() // ahead of no room
	wantPut(t, p, 1, with(1, "z"), api.ErrBusy)
	wantAccept(t, p, 2)
	ask()
	wantGet(t, p, 0, with(0, "x"))
	wantGet(t, p, 3, with(3, "x"))
}

// A page of whatever kind, with whatever cells, is held as it was put.
func TestPutIsGot(t *testing.T) {
	d := newDisk(t, 3)
	p := open(t, d, 1, 2, 2)
	long := string(bytes.Repeat([]byte{200}, 242))
	for _, b := range [][]byte{byWords(1, 1), byWords(1, 255), with(1, "a"), with(1, ""), with(1, long), byWords(1, 2, "a", "", "bc", ""), byWords(1, 3, make([]string, 122)...)} {
		wantPut(t, p, 1, b, api.OK)
		wantFrames(t, p, []int{1}, nil, []int{1})
		wantGet(t, p, 1, b)
		wantAccept(t, p, 1)
		wantGet(t, p, 1, b)
		wantFlush(t, p, api.OK)
		wantGet(t, p, 1, b)
		wantSector(t, d, 2, sealed(b))
		wantGet(t, open(t, d, 1, 2, 1), 1, b)
	}
	wantSector(t, d, 0, make([]byte, 256))
	wantSector(t, d, 1, make([]byte, 256))
}

// otherEnds are a page with other bytes in the last four: its sum, another one's, and each of them alone.
func otherEnds(b []byte) [][]byte {
	l := [][]byte{lastNoughts(b), sealed(b)}
	for _, end := range [][]byte{sealed(with(9, "another"))[252:], {1, 2, 3, 4}, {255, 255, 255, 255}, {1, 0, 0, 0}, {0, 1, 0, 0}, {0, 0, 1, 0}, {0, 0, 0, 1}, {0, 0, 0, 128}} {
		l = append(l, append(slices.Clone(b[:252]), end...))
	}
	return l
}

// Its last four bytes do not count: a page that is sealed already is one, is got with 0 there wherever it lies, and is sealed anew.
func TestPutOfOtherLastBytes(t *testing.T) {
	x, y := with(1, "abc"), with(1, "de")
	for _, b := range otherEnds(x) {
		d := newDisk(t, 2)
		p := open(t, d, 0, 2, 2)
		handed := slices.Clone(b)
		wantPut(t, p, 1, b, api.OK)
		wantPut(t, p, 0, b, api.ErrStale)
		wantGet(t, p, 1, x) // fresh
		wantAccept(t, p, 1)
		wantGet(t, p, 1, x) // dirty
		wantPut(t, p, 1, sealed(y), api.OK)
		wantGet(t, p, 1, y)
		wantDrop(t, p, 1)
		wantGet(t, p, 1, x) // what it was as a dirty frame
		wantFlush(t, p, api.OK)
		wantGet(t, p, 1, x) // clean
		wantSector(t, d, 1, sealed(x))
		wantGet(t, open(t, d, 0, 2, 1), 1, x)
		for _, c := range otherEnds(y) {
			wantPut(t, p, 1, c, api.OK)
			wantGet(t, p, 1, y)
		}
		wantDrop(t, p, 1)
		wantGet(t, p, 1, x) // read anew
		if !bytes.Equal(b, handed) {
			t.Fatal("what is handed in is changed")
		}
	}
}

// A frame that is given up, and read anew, holds what it held.
func TestLastBytesOfWhatIsGivenUp(t *testing.T) {
	for _, b := range otherEnds(with(0, "abc")) {
		p := open(t, laid(t, 0, 3), 0, 3, 1)
		wantPut(t, p, 0, b, api.OK)
		wantAccept(t, p, 1)
		wantFlush(t, p, api.OK)
		wantGet(t, p, 0, with(0, "abc"))
		gets(t, p, 1)
		wantFrames(t, p, nil, nil, []int{1})
		wantGet(t, p, 0, with(0, "abc"))
	}
}

func TestPutKeepsToItsOwnMemory(t *testing.T) {
	d := newDisk(t, 2)
	p := open(t, d, 0, 2, 2)
	room := append(with(1, "abc"), bytes.Repeat([]byte{7}, 300)...)
	before := slices.Clone(room)
	b := room[:256]
	wantPut(t, p, 1, b, api.OK)
	ask := func(need []byte) {
		t.Helper()
		wantGet(t, p, 1, need)
		if !bytes.Equal(room, before) {
			t.Fatal("what was handed in is changed")
		}
	}
	ask(with(1, "abc"))
	for i := range room {
		room[i] = 99
	}
	before = slices.Clone(room)
	ask(with(1, "abc"))
	wantAccept(t, p, 1)
	ask(with(1, "abc"))
	copy(b, with(1, "defg"))
	before = slices.Clone(room)
	wantPut(t, p, 1, b, api.OK)
	copy(b, with(1, "hi"))
	before = slices.Clone(room)
	ask(with(1, "defg"))
	wantDrop(t, p, 1)
	ask(with(1, "abc"))
	wantFlush(t, p, api.OK)
	wantSector(t, d, 1, sealed(with(1, "abc")))
	ask(with(1, "abc"))
	// What was got may be put again, and changed behind that.
	got, _ := p.Get(1)
	wantPut(t, p, 1, got, api.OK)
	clear(got[:cap(got)])
	ask(with(1, "abc"))
}

// Put asks no power, and makes no step.
func TestPutWithoutPower(t *testing.T) {
	d := newDisk(t, 3)
	d.Cut(0)
	p := open(t, d, 0, 3, 2)
	puts(t, p, "x", 1, 2)
	wantPut(t, p, 0, with(0, "x"), api.ErrBusy)
	puts(t, p, "y", 2)
	wantGet(t, p, 2, with(2, "y"))
	wantAccept(t, p, 2)
	puts(t, p, "z", 1)
	wantDrop(t, p, 1)
	wantGet(t, p, 1, with(1, "x"))
	wantFrames(t, p, nil, []int{1, 2}, []int{1, 2})
	if d.Steps() != 0 || len(d.Pending()) != 0 {
		t.Fatal("something is written")
	}
}
