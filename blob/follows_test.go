package blob_test

import (
	"bytes"
	"slices"
	"testing"

	"tabulary/api"
	"tabulary/blob"
	"tabulary/disk"
	"tabulary/pool"
	"tabulary/space"
)

// P13.5

// dice throws the same numbers each time.
type dice uint64

func (d *dice) throw() uint64 {
	*d = *d*6364136223846793005 + 1442695040888963407
	return uint64(*d>>32)<<32 ^ uint64(*d>>16)
}

func (d *dice) below(n int) int { return int(d.throw()>>33) % n }

func (d *dice) bytes(n int) []byte {
	b := make([]byte, n)
	for i := range b {
		b[i] = byte(d.throw() >> 20)
	}
	return b
}

// size is at an edge, or anywhere, and mostly small.
func (d *dice) size() int {
	switch d.below(4) {
	case 0:
		return sizes()[d.below(len(sizes()))]
	case 1:
		return d.below(4001)
	}
	return d.below(800)
}

// kept is a blob that was put, and its pages.
type kept struct {
	nos   []int
	bytes []byte
}

// store is blobs that are there at a time, and what was told of them.
type store struct {
	*dice
	t     *testing.T
	s     *space.Space
	blobs []kept
	left  []int
}

// all asks that each blob is as it was put, on pages of its own, and that just these are taken.
func (st *store) all() {
	st.t.Helper()
	for _, k := range st.blobs {
		wantBlob(st.t, st.s, k.nos, k.bytes)
		for _, no := range k.nos {
			if slices.Contains(st.left, no) {
				st.t.Fatalf("the page %d is left", no)
			}
		}
	}
	wantLeft(st.t, st.s, st.left...)
}

// put puts a blob where the least pages are, if it has room.
func (st *store) put(b []byte) {
	st.t.Helper()
	k := counted(len(b))
	if blob.Pages(len(b)) != k {
		st.t.Fatalf("Pages(%d): %d", len(b), blob.Pages(len(b)))
	}
	if k > len(st.left) {
		p := st.s.Pool()
		p.Accept()
		wantNoPut(st.t, st.s, b, api.ErrFull)
		p.Drop()
		return
	}
	nos := slices.Clone(st.left[:k])
	wantPut(st.t, st.s, b, nos[0])
	st.blobs = append(st.blobs, kept{nos, slices.Clone(b)})
	st.left = st.left[k:]
}

// free frees the i-th blob.
func (st *store) free(i int) {
	st.t.Helper()
	k := st.blobs[i]
	wantFree(st.t, st.s, k.nos[0], api.OK)
	st.blobs = slices.Delete(st.blobs, i, i+1)
	st.left = sorted(st.left, k.nos)
}

// Blobs that are put, got and freed, many at a time: none has a page of another one, and none is changed by what is done with another one.
func TestManyBlobs(t *testing.T) {
	d := dice(131)
	for _, n := range []int{30, 60, 200, 1950, 3860} {
		left := from(max(mapsOf(n), n-90), n)
		p := over(t, laid(t, n, left...), n, 130)
		st := &store{dice: &d, t: t, s: open(t, p), left: left}
		for range 250 {
			if len(st.blobs) > 0 && d.below(5) < 2 {
				st.free(d.below(len(st.blobs)))
			} else {
				st.put(d.bytes(d.size()))
			}
			st.all()
			if d.below(6) == 0 {
				settle(t, p)
			}
		}
		for len(st.blobs) > 0 {
			st.free(d.below(len(st.blobs)))
			st.all()
		}
		wantLeft(t, st.s, left...)
	}
}

// What the pool drops is as if it had not been asked for; what it accepts stays.
func TestDropBehindCalls(t *testing.T) {
	d := dice(132)
	p := over(t, laid(t, 1970, from(1880, 1970)...), 1970, 130)
	st := &store{dice: &d, t: t, s: open(t, p), left: from(1880, 1970)}
	for range 60 {
		p.Accept()
		blobs, left := slices.Clone(st.blobs), slices.Clone(st.left)
		for range 1 + d.below(6) {
			if len(st.blobs) > 0 && d.below(2) == 0 {
				st.free(d.below(len(st.blobs)))
			} else if n := d.size(); counted(n) <= len(st.left) {
				st.put(d.bytes(n))
			}
		}
		st.all()
		if d.below(2) == 0 {
			p.Drop()
			st.blobs, st.left = blobs, left
			st.all()
		}
	}
}

// What was flushed is got by another pool, and behind a loss of power; what was not is not there.
func TestBlobsBehindAFlush(t *testing.T) {
	d := laid(t, 2000, from(1900, 2000)...)
	p := over(t, d, 2000, 130)
	s := open(t, p)
	var l []kept
	next := 1900
	for _, n := range []int{0, 234, 235, 700, 4000, 3804} {
		wantPut(t, s, some(n), next)
		l = append(l, kept{from(next, next+counted(n)), some(n)})
		next += counted(n)
	}
	wantNoBlob(t, open(t, over(t, d, 2000, 3)), 1910, api.ErrSum)
	settle(t, p)
	wantPut(t, s, some(999), next) // waits
	wantFree(t, s, 1900, api.OK)   // this too
	p.Accept()
	d.Cut(1)
	if e := p.Flush(); e != api.ErrDown {
		t.Fatalf("Flush: error %d", e)
	}
	after, _ := d.Lose(api.Loss{Torn: -1})
	for _, frames := range []int{1, 2, 130} {
		o := open(t, over(t, after, 2000, frames))
		for _, k := range l {
			wantBlob(t, o, k.nos, k.bytes)
		}
		wantLeft(t, o, from(next, 2000)...)
		wantNoBlob(t, o, next, api.ErrSum) // never written
	}
	for _, k := range l {
		wantBlob(t, s, k.nos, k.bytes)
	}
}

// The chapter's words in plain loops, over a space of its own.
type words struct{ s *space.Space }

func (w words) put(b []byte) (int, api.Errno) {
	if len(b) > 4000 {
		return 0, api.ErrBig
	}
	var nos []int
	for range counted(len(b)) {
		no, e := w.s.Alloc()
		if e != api.OK {
			return 0, e
		}
		nos = append(nos, no)
	}
	for i, c := range cellsOf(nos, b) {
		if e := w.s.Pool().Put(nos[i], byWords(nos[i], 4, c)); e != api.OK {
			return 0, e
		}
	}
	return nos[0], api.OK
}

// number is what four bytes are, the highest first.
func number(b []byte) int { return int(b[0])<<24 + int(b[1])<<16 + int(b[2])<<8 + int(b[3]) }

func (w words) read(first int) ([]int, []byte, api.Errno) {
	var nos []int
	var all []byte
	size := 0
	for no := first; ; {
		b, e := w.s.Pool().Get(no)
		if e != api.OK {
			return nil, nil, e
		}
		nos = append(nos, no)
		long := int(b[6])*256 + int(b[7])
		if b[4] != 4 || b[5] != 1 || long < 4 || len(nos) == 1 && long < 8 {
			return nil, nil, api.ErrForm
		}
		no = number(b[10:])
		share := b[14 : 10+long]
		if len(nos) == 1 {
			size = number(share)
			share = share[4:]
		}
		if size > 4000 || len(nos) > counted(size) {
			return nil, nil, api.ErrForm
		}
		all = append(all, share...)
		need := 234 + 238*(len(nos)-1)
		switch {
		case len(nos) < counted(size) && (len(all) != need || no == 0):
			return nil, nil, api.ErrForm
		case len(nos) == counted(size) && (len(all) != size || no != 0):
			return nil, nil, api.ErrForm
		case len(nos) == counted(size):
			return nos, all, api.OK
		}
	}
}

func (w words) free(first int) api.Errno {
	nos, _, e := w.read(first)
	if e != api.OK {
		return e
	}
	for _, no := range nos {
		if e := w.s.Free(no); e != api.OK {
			return e
		}
	}
	return api.OK
}

// told is a call, and what it was refused with.
type told struct {
	call string
	e    api.Errno
}

// game plays the same calls over two pools, with this package and by the words.
type game struct {
	*dice
	t      *testing.T
	d, c   *disk.Disk // the words' is c
	s      *space.Space
	w      words
	firsts []int // of blobs that were put, or once were
	counts map[told]int
}

func newGame(t *testing.T, dd *dice, counts map[told]int) *game {
	t.Helper()
	n := []int{12, 25, 40, 80, 1921, 1950, 3860}[dd.below(7)]
	var left []int
	for no := mapsOf(n); no < n; no++ {
		if no > n-60 && dd.below(5) > 0 || no > 1910 && no < 1925 && dd.below(3) > 0 || dd.below(400) == 0 {
			left = append(left, no)
		}
	}
	frames := 1 + dd.below(12)
	if dd.below(2) == 0 {
		frames = 20 + dd.below(60)
	}
	d := laid(t, n, left...)
	c, _ := d.Lose(api.Loss{Torn: -1})
	return &game{dice: dd, t: t, d: d, c: c, s: open(t, over(t, d, n, frames)), w: words{open(t, over(t, c, n, frames))}, firsts: []int{0}, counts: counts}
}

func (g *game) n() int { return g.w.s.Pool().Count() }

// first is mostly a blob's.
func (g *game) first() int {
	switch g.below(8) {
	case 0:
		return g.below(g.n())
	case 1:
		l := farNumbers(g.n())
		return l[g.below(len(l))]
	}
	return g.firsts[g.below(len(g.firsts))]
}

// same asks that both pools hold the same, and that what was told is the same.
func (g *game) same(call string, e, need api.Errno) {
	g.t.Helper()
	g.counts[told{call, need}]++
	if e != need {
		g.t.Fatalf("%s over %d pages: error %d, not %d", call, g.n(), e, need)
	}
	p := g.w.s.Pool()
	wantFrames(g.t, g.s.Pool(), p.Fresh(), p.Dirty(), p.Held())
}

// play makes a call.
func (g *game) play() {
	g.t.Helper()
	switch n := g.below(13); {
	case n < 5:
		b := g.dice.bytes(g.size())
		if g.below(30) == 0 {
			b = make([]byte, 4001+g.below(300))
		}
		need, want := g.w.put(b)
		no, e := blob.Put(g.s, b)
		if no != need {
			g.t.Fatalf("Put: %d, not %d", no, need)
		}
		g.same("Put", e, want)
		if e == api.OK {
			g.firsts = append(g.firsts, no)
		}
	case n < 7:
		first := g.first()
		_, need, want := g.w.read(first)
		b, e := blob.Get(g.s, first)
		if !bytes.Equal(b, need) {
			g.t.Fatalf("Get(%d): %v, not %v", first, b, need)
		}
		g.same("Get", e, want)
	case n < 9:
		first := g.first()
		need, _, want := g.w.read(first)
		l, e := blob.Chain(g.s, first)
		if !slices.Equal(l, need) {
			g.t.Fatalf("Chain(%d): %v, not %v", first, l, need)
		}
		g.same("Chain", e, want)
	default:
		first := g.first()
		g.same("Free", blob.Free(g.s, first), g.w.free(first))
	}
}

// both makes a call of both pools.
func (g *game) both(call func(*pool.Pool) api.Errno) {
	g.t.Helper()
	g.same("a pool's call", call(g.s.Pool()), call(g.w.s.Pool()))
}

// meddle puts one of a blob's pages once more, with something changed.
func (g *game) meddle() {
	g.t.Helper()
	first := g.first()
	nos, b, e := g.w.read(first)
	blob.Chain(g.s, first) // it makes pages younger, here as there
	if e != api.OK {
		return
	}
	i := g.below(len(nos))
	c := []byte(cellsOf(nos, b)[i])
	kind := byte(4)
	switch g.below(6) {
	case 0:
		c = c[:g.below(len(c)+1)]
	case 1:
		c = append(c, 7)[:min(len(c)+1, 242)]
	case 2:
		kind = byte(1 + g.below(5))
	case 3:
		copy(c, four(nos[g.below(len(nos))]))
	case 4:
		copy(c, four(g.first()))
	case 5:
		c[4+g.below(max(len(c)-4, 4))%(len(c)-4)]++
	}
	g.both(func(p *pool.Pool) api.Errno { return p.Put(nos[i], byWords(nos[i], kind, string(c))) })
}

// stir makes a call of the pools or the spaces, or spoils the disks.
func (g *game) stir() {
	g.t.Helper()
	switch n := g.below(14); {
	case n < 2:
		no := g.below(g.n())
		g.both(func(p *pool.Pool) api.Errno { _, e := p.Get(no); return e })
	case n < 3:
		no, want := g.w.s.Alloc()
		if got, e := g.s.Alloc(); got != no || e != want {
			g.t.Fatalf("Alloc: %d, error %d, not %d and %d", got, e, no, want)
		}
	case n < 5:
		g.both(func(p *pool.Pool) api.Errno { return api.Errno(p.Accept()) })
	case n < 7:
		g.both(func(p *pool.Pool) api.Errno { return api.Errno(p.Drop()) })
	case n < 12:
		g.both(func(p *pool.Pool) api.Errno { p.Accept(); return p.Flush() })
	case g.below(4) == 0:
		i, at := g.d.Size()-g.n()+max(0, g.first())%g.n(), g.below(256)
		g.d.Spoil(i, at, 7)
		g.c.Spoil(i, at, 7)
	}
}

// All calls, one behind the other, by the chapter's words, with the pool's own calls between, and pages put by hand.
func TestCallsByWords(t *testing.T) {
	d, counts := dice(133), map[told]int{}
	for range 400 {
		g := newGame(t, &d, counts)
		for range 60 {
			g.play()
			switch d.below(6) {
			case 0, 1:
				g.stir()
			case 2:
				g.meddle()
			}
		}
		if d.below(3) == 0 {
			g.d.Cut(0)
			g.c.Cut(0)
			for range 10 {
				g.play()
				g.stir()
			}
			continue
		}
		for i := range g.d.Size() {
			b, _ := g.d.Read(i)
			if need, _ := g.c.Read(i); !bytes.Equal(b, need) {
				t.Fatalf("the sector %d: %v, not %v", i, b, need)
			}
		}
	}
	for call, errors := range map[string][]api.Errno{
		"Put":   {api.OK, api.ErrBig, api.ErrFull, api.ErrBusy, api.ErrDown, api.ErrSum},
		"Chain": {api.OK, api.ErrInvalid, api.ErrForm, api.ErrBusy, api.ErrSum, api.ErrDown},
		"Get":   {api.OK, api.ErrInvalid, api.ErrForm, api.ErrBusy, api.ErrSum, api.ErrDown},
		"Free":  {api.OK, api.ErrInvalid, api.ErrNone, api.ErrForm, api.ErrBusy, api.ErrSum, api.ErrDown},
	} {
		for _, e := range errors {
			if counts[told{call, e}] < 10 {
				t.Errorf("%s with the error %d: %d times, too few to tell", call, e, counts[told{call, e}])
			}
		}
	}
}
