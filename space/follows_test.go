package space_test

import (
	"bytes"
	"slices"
	"testing"

	"tabulary/api"
	"tabulary/disk"
	"tabulary/pool"
	"tabulary/space"
)

// P12.5

// What the pool drops is as if it had not been asked for.
func TestDropBehindAllocAndFree(t *testing.T) {
	for _, n := range []int{40, 1930, 4000} {
		maps := mapsOf(n)
		first := upTo(n - 20)
		_, p := laid(t, n, 4, first)
		s := open(t, p)
		wantAlloc(t, s, n-20, n-19, n-18)
		wantFree(t, s, maps, api.OK)
		wantFree(t, s, n-19, api.OK)
		p.Drop()
		wantTaken(t, s, first)
		wantMaps(t, p, first)
		wantAlloc(t, s, n-20)
		wantFree(t, s, n-19, api.ErrNone)
		p.Accept()
		then := upTo(n - 19)
		wantAlloc(t, s, n-19, n-18)
		wantFree(t, s, maps, api.OK)
		p.Drop() // what was accepted stays, dirty
		wantTaken(t, s, then)
		wantFrames(t, p, nil, []int{(n - 20) / 1920}, upTo(maps))
		settle(t, p)
		wantFree(t, s, n-21, api.OK)
		wantAlloc(t, s, n-21, n-19)
		p.Drop()
		wantTaken(t, s, then)
		wantAlloc(t, s, n-19)
	}
}

// Behind Format there is what was there ahead of it; a space that was made then is asked what that is.
func TestDropBehindFormat(t *testing.T) {
	for _, n := range []int{40, 1930, 4000} {
		_, p := bare(t, n, 4)
		s := format(t, p)
		wantAlloc(t, s, mapsOf(n))
		p.Drop()
		wantFrames(t, p, nil, nil, nil)
		wantNoAlloc(t, s, api.ErrSum) // nothing was ever written
		wantNoTaken(t, s, api.ErrSum)
		wantFree(t, s, n-1, api.ErrSum)
		wantNoOpen(t, p, api.ErrSum)
		if s.Pool() != p || s.Maps() != mapsOf(n) {
			t.Fatal("the space is over another pool")
		}
		_, p = laid(t, n, 4, upTo(30))
		s = open(t, p)
		o := format(t, p)
		wantTaken(t, s, upTo(mapsOf(n)))
		wantAlloc(t, o, mapsOf(n))
		wantTaken(t, s, upTo(mapsOf(n)+1))
		p.Drop()
		wantTaken(t, s, upTo(30))
		wantTaken(t, o, upTo(30))
		wantTaken(t, open(t, p), upTo(30))
	}
}

// Spaces over one pool tell the same.
func TestTwoSpacesOverOnePool(t *testing.T) {
	for _, n := range []int{40, 1930, 4000} {
		_, p := laid(t, n, 4, upTo(n-20))
		s := open(t, p)
		o := open(t, p)
		for i := range 9 {
			wantAlloc(t, s, n-20+2*i)
			wantAlloc(t, o, n-20+2*i+1)
			wantTaken(t, s, upTo(n-20+2*i+2))
			wantTaken(t, o, upTo(n-20+2*i+2))
		}
		wantFree(t, s, n-19, api.OK)
		wantFree(t, o, n-19, api.ErrNone)
		wantAlloc(t, o, n-19, n-2, n-1)
		wantNoAlloc(t, s, api.ErrFull)
		wantFree(t, s, n-19, api.OK)
		p.Drop()
		wantAlloc(t, o, n-20)
		wantAlloc(t, s, n-19)
	}
}

// A space is opened again over the same pool, and over another one of what was flushed.
func TestOpenAgain(t *testing.T) {
	for _, n := range []int{20, 1930, 4000} {
		d, p := bare(t, n, 4)
		s := format(t, p)
		maps := mapsOf(n)
		wantAlloc(t, s, maps, maps+1, maps+2, maps+3)
		wantFree(t, s, maps+1, api.OK)
		taken := without(upTo(maps+4), maps+1)
		wantTaken(t, open(t, p), taken)
		wantNoOpen(t, over(t, d, n, 4), api.ErrSum) // nothing is flushed
		p.Accept()
		wantTaken(t, open(t, p), taken)
		wantNoOpen(t, over(t, d, n, 4), api.ErrSum)
		settle(t, p)
		wantTaken(t, open(t, p), taken)
		q := over(t, d, n, 1)
		o := open(t, q)
		wantTaken(t, o, taken)
		wantAlloc(t, o, maps+1)
		wantTaken(t, s, taken) // that is in the other pool's frames
		settle(t, q)
		wantTaken(t, open(t, over(t, d, n, 2)), upTo(maps+4))
		d.Cut(0)
		after, _ := d.Lose(api.Loss{Torn: -1})
		wantTaken(t, open(t, over(t, after, n, 2)), upTo(maps+4))
	}
}

// The chapter's words in plain loops, over a pool of its own.
type words struct{ p *pool.Pool }

func (w words) maps() int { return mapsOf(w.p.Count()) }

// pages are how many the k-th map has a bit for.
func (w words) pages(k int) int { return min(w.p.Count()-1920*k, 1920) }

// isTaken asks the bit of a map's page.
func isTaken(b []byte, i int) bool { return b[10+i/8]/[]byte{1, 2, 4, 8, 16, 32, 64, 128}[i%8]%2 == 1 }

// look gets a map, and asks whether it is one.
func (w words) look(k int) ([]byte, api.Errno) {
	b, e := w.p.Get(k)
	if e != api.OK {
		return nil, e
	}
	size := (w.pages(k) + 7) / 8
	if b[4] != 2 || b[5] != 1 || int(b[6])*256+int(b[7]) != size {
		return nil, api.ErrForm
	}
	for i := range 8 * size {
		switch {
		case i >= w.pages(k) && isTaken(b, i), 1920*k+i < w.maps() && !isTaken(b, i):
			return nil, api.ErrForm
		}
	}
	return b, api.OK
}

func (w words) format() api.Errno {
	for k := range w.maps() {
		if e := w.p.Put(k, aMap(w.p.Count(), k, upTo(w.maps()))); e != api.OK {
			return e
		}
	}
	return api.OK
}

func (w words) open() api.Errno {
	_, e := w.taken()
	return e
}

func (w words) alloc() (int, api.Errno) {
	for k := range w.maps() {
		b, e := w.look(k)
		if e != api.OK {
			return 0, e
		}
		for i := range w.pages(k) {
			if !isTaken(b, i) {
				b[10+i/8] += 1 << (i % 8)
				return 1920*k + i, w.p.Put(k, b)
			}
		}
	}
	return 0, api.ErrFull
}

func (w words) free(no int) api.Errno {
	if no < w.maps() || no >= w.p.Count() {
		return api.ErrInvalid
	}
	k, i := no/1920, no%1920
	b, e := w.look(k)
	switch {
	case e != api.OK:
		return e
	case !isTaken(b, i):
		return api.ErrNone
	}
	b[10+i/8] -= 1 << (i % 8)
	return w.p.Put(k, b)
}

func (w words) taken() ([]int, api.Errno) {
	var l []int
	for k := range w.maps() {
		b, e := w.look(k)
		if e != api.OK {
			return nil, e
		}
		for i := range w.pages(k) {
			if isTaken(b, i) {
				l = append(l, 1920*k+i)
			}
		}
	}
	return l, api.OK
}

// dice throws the same numbers each time.
type dice uint64

func (d *dice) throw() uint64 {
	*d = *d*6364136223846793005 + 1442695040888963407
	return uint64(*d>>32)<<32 ^ uint64(*d>>16)
}

func (d *dice) below(n int) int { return int(d.throw()>>33) % n }

// told is a call, and what it was refused with.
type told struct {
	call string
	e    api.Errno
}

// game plays the same calls over two pools, with a space and by the words.
type game struct {
	*dice
	t      *testing.T
	d, c   *disk.Disk // the words' is c
	s      *space.Space
	w      words
	counts map[told]int
}

func newGame(t *testing.T, dd *dice, counts map[told]int) *game {
	t.Helper()
	n := []int{1, 2, 4, 8, 9, 21, 1920, 1921, 1924, 1930, 3840, 3841, 3845, 4000, 4096}[dd.below(15)]
	taken := upTo(n)
	for range dd.below(6) { // few are left, so that later maps are asked
		taken = without(taken, max(mapsOf(n), dd.below(n)))
	}
	frames := 1 + dd.below(6)
	d, p := laid(t, n, frames, taken)
	c, _ := d.Lose(api.Loss{Torn: -1})
	g := &game{dice: dd, t: t, d: d, c: c, s: open(t, p), w: words{over(t, c, n, frames)}, counts: counts}
	g.same("Open", api.OK, g.w.open())
	return g
}

func (g *game) n() int { return g.w.p.Count() }

// number is mostly one of a page that lies by itself at an edge, or is a map.
func (g *game) number() int {
	l := append(lone(g.n()), upTo(g.w.maps())...)
	switch g.below(8) {
	case 0:
		l = farNumbers(g.n())
	case 1, 2, 3:
		return g.below(g.n())
	}
	return l[g.below(len(l))]
}

// same asks that both pools hold the same, and that what was told is the same.
func (g *game) same(call string, e, need api.Errno) {
	g.t.Helper()
	g.counts[told{call, need}]++
	if e != need {
		g.t.Fatalf("%s of %d pages: error %d, not %d", call, g.n(), e, need)
	}
	wantFrames(g.t, g.s.Pool(), g.w.p.Fresh(), g.w.p.Dirty(), g.w.p.Held())
}

// both makes a call of both pools.
func (g *game) both(call func(*pool.Pool) api.Errno) {
	g.t.Helper()
	g.same("a pool's call", call(g.s.Pool()), call(g.w.p))
}

// bytes are a page for a number: of a map at times one that is none.
func (g *game) bytes(no int) []byte {
	if no >= g.w.maps() {
		return plain(no)
	}
	if g.below(3) == 0 {
		return aMap(g.n(), no, without(upTo(g.n()), max(g.w.maps(), g.below(g.n()))))
	}
	wrong := wrongPages(g.n(), no)
	var names []string
	for name := range wrong {
		names = append(names, name)
	}
	slices.Sort(names)
	return wrong[names[g.below(len(names))]]
}

// play makes a call of a space.
func (g *game) play() {
	g.t.Helper()
	switch n := g.below(16); {
	case n < 6:
		need, want := g.w.alloc()
		no, e := g.s.Alloc()
		if no != need {
			g.t.Fatalf("Alloc: %d, not %d", no, need)
		}
		g.same("Alloc", e, want)
	case n < 12:
		no := g.number()
		g.same("Free", g.s.Free(no), g.w.free(no))
	case n < 13:
		need, want := g.w.taken()
		l, e := g.s.Taken()
		if !slices.Equal(l, need) {
			g.t.Fatalf("Taken: %v, not %v", l, need)
		}
		g.same("Taken", e, want)
	case n < 14:
		need, want := g.w.taken()
		left, e := g.s.Left()
		if want == api.OK && left != g.n()-len(need) || want != api.OK && left != 0 {
			g.t.Fatalf("Left: %d of %d", left, len(need))
		}
		g.same("Left", e, want)
	case n < 15:
		g.opens()
	default:
		g.formats()
	}
}

// opens goes on with the space that is opened, if it is.
func (g *game) opens() {
	g.t.Helper()
	want := g.w.open()
	s, e := space.Open(g.s.Pool())
	if (s == nil) == (e == api.OK) {
		g.t.Fatalf("Open: %v, error %d", s, e)
	}
	g.same("Open", e, want)
	if s != nil {
		g.s = s
	}
}

// formats is seldom, as it leaves nothing.
func (g *game) formats() {
	g.t.Helper()
	if g.below(3) > 0 {
		return
	}
	want := g.w.format()
	s, e := space.Format(g.s.Pool())
	if (s == nil) == (e == api.OK) {
		g.t.Fatalf("Format: %v, error %d", s, e)
	}
	g.same("Format", e, want)
	if s != nil {
		g.s = s
	}
}

// stir makes a call of the pools, or spoils their disks.
func (g *game) stir() {
	g.t.Helper()
	switch n := g.below(14); {
	case n < 3:
		no := min(g.below(9), g.n()-1)
		g.both(func(p *pool.Pool) api.Errno { _, e := p.Get(no); return e })
	case n < 5:
		no := min(g.below(12), g.n()-1)
		b := g.bytes(no)
		g.both(func(p *pool.Pool) api.Errno { return p.Put(no, b) })
	case n < 7:
		g.both(func(p *pool.Pool) api.Errno { return api.Errno(p.Accept()) })
	case n < 10:
		g.both(func(p *pool.Pool) api.Errno { return api.Errno(p.Drop()) })
	case n < 13:
		g.both(func(p *pool.Pool) api.Errno { return p.Flush() })
	case g.below(8) == 0:
		i, at := g.d.Size()-g.n()+g.below(g.w.maps()), g.below(256)
		g.d.Spoil(i, at, 7)
		g.c.Spoil(i, at, 7)
	}
}

// All calls, one behind the other, by the chapter's words, with the pool's own calls between.
func TestCallsByWords(t *testing.T) {
	d, counts := dice(121), map[told]int{}
	for range 500 {
		g := newGame(t, &d, counts)
		for range 60 {
			g.play()
			if d.below(3) == 0 {
				g.stir()
			}
		}
		if d.below(3) == 0 {
			g.d.Cut(0)
			g.c.Cut(0)
			for range 10 {
				g.play()
				g.stir()
			}
			continue
		}
		for i := range g.d.Size() {
			b, _ := g.d.Read(i)
			if need, _ := g.c.Read(i); !bytes.Equal(b, need) {
				t.Fatalf("the sector %d: %v, not %v", i, b, need)
			}
		}
	}
	for call, errors := range map[string][]api.Errno{
		"Format": {api.OK, api.ErrBusy}, "Open": {api.OK, api.ErrForm, api.ErrBusy, api.ErrSum, api.ErrDown},
		"Alloc": {api.OK, api.ErrFull, api.ErrForm, api.ErrBusy, api.ErrSum, api.ErrDown},
		"Free":  {api.OK, api.ErrInvalid, api.ErrNone, api.ErrForm, api.ErrBusy, api.ErrSum, api.ErrDown},
		"Taken": {api.OK, api.ErrForm, api.ErrBusy, api.ErrSum, api.ErrDown},
		"Left":  {api.OK, api.ErrForm, api.ErrBusy, api.ErrSum, api.ErrDown},
	} {
		for _, e := range errors {
			if counts[told{call, e}] < 10 {
				t.Errorf("%s with the error %d: %d times, too few to tell", call, e, counts[told{call, e}])
			}
		}
	}
}

// A page that was given is not given again till it is freed; of those that are freed the least is given first.
func TestWhatIsGivenAndFreed(t *testing.T) {
	d := dice(122)
	for _, n := range []int{2, 9, 30, 1925, 3845} {
		_, p := laid(t, n, 3, upTo(max(mapsOf(n), n-25)))
		s := open(t, p)
		given := map[int]int{}
		for no := range max(mapsOf(n), n-25) {
			given[no] = 1
		}
		for range 400 {
			no := mapsOf(n) + d.below(n-mapsOf(n))
			if d.below(2) == 0 {
				no = n - 1 - d.below(min(n-mapsOf(n), 30))
			}
			switch {
			case d.below(5) < 2 && given[no] == 1:
				wantFree(t, s, no, api.OK)
				delete(given, no)
			case d.below(2) == 0 && given[no] == 0:
				wantFree(t, s, no, api.ErrNone)
			case len(given) == n:
				wantNoAlloc(t, s, api.ErrFull)
			default:
				least := 0
				for given[least] == 1 {
					least++
				}
				wantAlloc(t, s, least)
				given[least] = 1
			}
			if left, e := s.Left(); left != n-len(given) || e != api.OK {
				t.Fatalf("Left: %d, error %d, not %d", left, e, n-len(given))
			}
			if d.below(10) == 0 {
				settle(t, p)
			}
		}
	}
}
