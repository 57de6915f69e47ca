package pool_test

import (
	"bytes"
	"slices"
	"testing"

	"tabulary/api"
	"tabulary/disk"
	"tabulary/page"
	"tabulary/pool"
)

// dice throws the same numbers each time.
type dice uint64

func (d *dice) throw() uint64 {
	*d = *d*6364136223846793005 + 1442695040888963407
	return uint64(*d>>32)<<32 ^ uint64(*d>>16)
}

func (d *dice) below(n int) int { return int(d.throw()>>33) % n }

// page is a page with a few cells.
func (d *dice) page(no int) []byte {
	cells := make([]string, d.below(4))
	for i := range cells {
		cells[i] = string(rune('a'+d.below(26))) + string(make([]byte, d.below(20)))
	}
	return byWords(no, byte(1+d.below(255)), cells...)
}

// one is a page as it is held.
type one struct {
	b     []byte
	dirty bool
	time  int // of the call that got or put it last
}

// model is the chapter's words: what is settled, and what was put over that, and is fresh.
type model struct {
	from, count, frames int
	settled, put        map[int]one
	sectors             [][]byte // what they have
	on                  bool     // the power
	time, steps         int
}

func (m *model) held() []int {
	var l []int
	for no := range m.count {
		_, s := m.settled[no]
		if _, f := m.put[no]; f || s {
			l = append(l, no)
		}
	}
	return l
}

func (m *model) fresh() []int {
	var l []int
	for no := range m.count {
		if _, f := m.put[no]; f {
			l = append(l, no)
		}
	}
	return l
}

func (m *model) dirty() []int {
	var l []int
	for no := range m.count {
		if m.settled[no].dirty {
			l = append(l, no)
		}
	}
	return l
}

// givenUp is which page is given up for one more: -1, if none needs to be.
func (m *model) givenUp(no int) (out int, ok bool) {
	held := m.held()
	if len(held) < m.frames || slices.Contains(held, no) {
		return -1, true
	}
	out = -1
	for _, n := range held {
		if o, s := m.settled[n]; s && !o.dirty && (out < 0 || o.time < m.settled[out].time) {
			out = n
		}
	}
	return out, out >= 0
}

func (m *model) get(no int) ([]byte, api.Errno) {
	if no < 0 || no >= m.count {
		return nil, api.ErrInvalid
	}
	if o, f := m.put[no]; f {
		m.time++
		m.put[no] = one{o.b, false, m.time}
		return o.b, api.OK
	}
	o, s := m.settled[no]
	if !s {
		out, ok := m.givenUp(no)
		switch {
		case !ok:
			return nil, api.ErrBusy
		case !m.on:
			return nil, api.ErrDown
		}
		b, e := page.Open(m.sectors[m.from+no], no)
		if e != api.OK {
			return nil, e
		}
		delete(m.settled, out)
		o = one{b: b}
	}
	m.time++
	o.time = m.time
	m.settled[no] = o
	return o.b, api.OK
}

func (m *model) puts(no int, b []byte) api.Errno {
	if no < 0 || no >= m.count {
		return api.ErrInvalid
	}
	s, e := page.Seal(b)
	if e != api.OK {
		return api.ErrForm
	}
	if _, e := page.Open(s, no); e != api.OK {
		return api.ErrStale
	}
	out, ok := m.givenUp(no)
	if !ok {
		return api.ErrBusy
	}
	delete(m.settled, out)
	if !m.settled[no].dirty { // a clean one is not kept beside what is fresh
		delete(m.settled, no)
	}
	m.time++
	m.put[no] = one{lastNoughts(b), false, m.time}
	return api.OK
}

func (m *model) accept() int {
	n := len(m.put)
	for no, o := range m.put {
		m.settled[no] = one{o.b, true, o.time}
	}
	clear(m.put)
	return n
}

// drop makes no page older: each is of the age that it has by the last call that got or put it.
func (m *model) drop() int {
	n := len(m.put)
	for no, o := range m.put {
		if was, s := m.settled[no]; s {
			m.settled[no] = one{was.b, true, o.time}
		}
	}
	clear(m.put)
	return n
}

// flush is told how many steps there are till the power goes off; below 0: it stays.
func (m *model) flush(cut int) api.Errno {
	l := m.dirty()
	switch {
	case len(m.put) > 0:
		return api.ErrState
	case len(l) == 0:
		return api.OK
	}
	for i, no := range l {
		if !m.on || i == cut {
			return api.ErrDown
		}
		m.sectors[m.from+no] = sealed(m.settled[no].b)
		m.steps++
	}
	if !m.on || cut == len(l) {
		return api.ErrDown
	}
	m.steps++
	for _, no := range l {
		o := m.settled[no]
		o.dirty = false
		m.settled[no] = o
	}
	return api.OK
}

// game plays calls against a pool and its model.
type game struct {
	*dice
	t *testing.T
	d *disk.Disk
	p *pool.Pool
	m *model
}

func newGame(t *testing.T, d *dice) *game {
	t.Helper()
	from, count := d.below(4), 1+d.below(12)
	frames := 1 + d.below([]int{2, 5, 14}[d.below(3)])
	on := newDisk(t, from+count+d.below(3))
	m := &model{from: from, count: count, frames: frames, settled: map[int]one{}, put: map[int]one{}, on: true}
	for i := range on.Size() {
		b := make([]byte, 256)
		switch n := d.below(8); {
		case n == 0: // another page, or none
			b = sealed(with(d.below(count), "another"))
		case n == 1:
			b[d.below(256)] = 1
		case n > 2 && i >= from:
			b = sealed(d.page(i - from))
		}
		on.Write(i, b)
		m.sectors = append(m.sectors, b)
	}
	on.Sync()
	m.steps = on.Steps()
	return &game{dice: d, t: t, d: on, p: open(t, on, from, count, frames), m: m}
}

// number is mostly one of a page.
func (g *game) number() int {
	if g.below(12) == 0 {
		far := farNumbers(g.m.count)
		return far[g.below(len(far))]
	}
	return g.below(g.m.count)
}

// bytes are mostly the page no.
func (g *game) bytes(no int) []byte {
	b := g.page(g.below(g.m.count + 2))
	if no >= 0 && no < g.m.count && g.below(6) > 0 {
		b = g.page(no)
	}
	switch g.below(16) {
	case 0:
		b[g.below(256)] ^= 1 << g.below(8)
	case 1:
		b = b[:g.below(256)]
	case 2:
		b = sealed(b)
	case 3:
		copy(b[252:], []byte{byte(g.below(256)), byte(g.below(256)), byte(g.below(256)), byte(g.below(256))})
	}
	return b
}

// play makes a call of both, and asks that they tell the same.
func (g *game) play() {
	g.t.Helper()
	switch n := g.below(20); {
	case n < 8:
		no := g.number()
		need, want := g.m.get(no)
		if b, e := g.p.Get(no); e != want || !bytes.Equal(b, need) {
			g.t.Fatalf("Get(%d): %v, error %d; not %v, %d", no, b, e, need, want)
		}
	case n < 15:
		no := g.number()
		b := g.bytes(no)
		before := slices.Clone(b)
		wantPut(g.t, g.p, no, b, g.m.puts(no, before))
		if !bytes.Equal(b, before) {
			g.t.Fatal("what is handed in is changed")
		}
	case n < 17:
		wantAccept(g.t, g.p, g.m.accept())
	case n < 18:
		wantDrop(g.t, g.p, g.m.drop())
	default:
		wantFlush(g.t, g.p, g.m.flush(-1))
	}
}

// same asks that a pool, and its disk, are as the model says.
func (g *game) same() {
	g.t.Helper()
	wantFrames(g.t, g.p, g.m.fresh(), g.m.dirty(), g.m.held())
	if g.p.Count() != g.m.count || g.d.Steps() != g.m.steps {
		g.t.Fatalf("%d pages, %d steps, not %d, %d", g.p.Count(), g.d.Steps(), g.m.count, g.m.steps)
	}
	if g.m.on {
		for i, s := range g.m.sectors {
			wantSector(g.t, g.d, i, s)
		}
	}
}

// All calls, one behind the other, by the chapter's words: nothing is written but by Flush.
func TestCallsByWords(t *testing.T) {
	d := dice(111)
	for range 1500 {
		g := newGame(t, &d)
		for range 60 {
			g.play()
			g.same()
		}
		if d.below(4) > 0 {
			continue
		}
		g.d.Cut(0)
		g.m.on = false
		for range 20 {
			g.play()
			g.same()
		}
	}
}

// The power is cut within a Flush, the pool goes on without it, and then it is back, with some writes kept.
func TestFlushesThatAreCut(t *testing.T) {
	d, refused := dice(112), 0
	for range 1500 {
		g := newGame(t, &d)
		for range 3 {
			for range 20 {
				g.play()
			}
			cut := 1 + d.below(6)
			g.d.Cut(cut)
			e := g.m.flush(cut)
			wantFlush(t, g.p, e)
			if e == api.ErrDown {
				refused++
			}
			g.d.Cut(0)
			g.m.on = false
			g.same()
			for range 10 {
				g.play()
				g.same()
			}
			g.back()
			g.same()
			for range 20 {
				g.play()
				g.same()
			}
		}
	}
	if refused < 300 {
		t.Errorf("%d Flushes are cut: too few to tell", refused)
	}
}

// back gives the disk its power back, behind a loss: of a write that is torn a part is left.
func (g *game) back() {
	waiting := len(g.d.Pending())
	l := api.Loss{Torn: g.below(2*waiting+1) - waiting, At: g.below(257)}
	for range waiting {
		l.Kept = append(l.Kept, g.below(2) == 0)
	}
	on, e := g.d.Lose(l)
	if e != api.OK {
		g.t.Fatalf("Lose: error %d", e)
	}
	*g.d = *on
	g.m.on, g.m.steps = true, 0
	for i := range g.m.sectors {
		g.m.sectors[i], _ = on.Read(i)
	}
}

// P11.7, as it is said, of a pool that is never short of frames

func TestWhatIsPutIsGot(t *testing.T) {
	d := dice(113)
	for range 300 {
		on := laid(t, 2, 8)
		steps := on.Steps()
		p := open(t, on, 2, 8, 8)
		var kept, now [8][]byte // as they were behind the last Accept or Drop; as they were put last
		for no := range kept {
			kept[no] = first(no)
		}
		now = kept
		for range 60 {
			switch n := d.below(12); {
			case n < 6:
				no := d.below(8)
				b := d.page(no)
				wantPut(t, p, no, b, api.OK)
				now[no] = b
			case n < 9:
				p.Accept()
				kept = now
			default:
				p.Drop()
				now = kept
			}
			for no := range now {
				if d.below(3) == 0 {
					wantGet(t, p, no, now[no])
				}
			}
			if on.Steps() != steps || len(on.Pending()) != 0 {
				t.Fatal("something is written ahead of its time")
			}
		}
		p.Drop()
		wantFlush(t, p, api.OK)
		q := open(t, on, 2, 8, 1+d.below(8))
		for no := range kept {
			wantGet(t, p, no, kept[no])
			wantGet(t, q, no, kept[no])
			wantSector(t, on, 2+no, sealed(kept[no]))
		}
	}
}

// What is flushed is on the disk behind each loss of power.
func TestWhatIsFlushedLasts(t *testing.T) {
	on := laid(t, 1, 6)
	p := open(t, on, 1, 6, 4)
	puts(t, p, "x", 5, 0, 3)
	wantAccept(t, p, 3)
	wantFlush(t, p, api.OK)
	puts(t, p, "y", 0)
	wantAccept(t, p, 1)
	puts(t, p, "z", 3)
	on.Cut(0)
	after, _ := on.Lose(api.Loss{Torn: -1})
	q := open(t, after, 1, 6, 2)
	for _, no := range []int{0, 3, 5} {
		wantGet(t, q, no, with(no, "x"))
	}
	gets(t, q, 1, 2, 4)
}

// Pools over one disk have their own frames; what one flushes, another one gets, unless it holds the page.
func TestPoolsHaveTheirOwnFrames(t *testing.T) {
	on := laid(t, 1, 6)
	p, q := open(t, on, 1, 6, 3), open(t, on, 1, 6, 3)
	elsewhere := open(t, on, 3, 4, 2) // its page 0 lies where theirs is 2
	gets(t, q, 0)
	puts(t, p, "x", 0, 1, 2)
	wantFrames(t, q, nil, nil, []int{0})
	wantNoGet(t, elsewhere, 0, api.ErrStale)
	wantAccept(t, p, 3)
	gets(t, q, 1)
	wantAccept(t, q, 0)
	wantFlush(t, p, api.OK)
	gets(t, q, 0, 1)
	wantGet(t, q, 2, with(2, "x"))
	puts(t, elsewhere, "here", 0)
	wantAccept(t, elsewhere, 1)
	wantFlush(t, elsewhere, api.OK)
	wantGet(t, q, 2, with(2, "x"))
	wantNoGet(t, open(t, on, 1, 6, 3), 2, api.ErrStale)
	gets(t, q, 3) // the page 0 is given up, and got anew
	wantGet(t, q, 0, with(0, "x"))
}

// No call but Flush makes a step, in whatever state the pool is.
func TestNoCallButFlushMakesAStep(t *testing.T) {
	d := dice(114)
	for range 300 {
		g := newGame(t, &d)
		for range 60 {
			steps, waiting := g.d.Steps(), len(g.d.Pending())
			no := g.number()
			g.p.Get(no)
			g.p.Put(no, g.bytes(no))
			g.p.Fresh()
			g.p.Dirty()
			g.p.Held()
			g.p.Count()
			if g.below(2) == 0 {
				g.p.Accept()
			}
			if g.below(4) == 0 {
				g.p.Drop()
			}
			open(t, g.d, g.m.from, g.m.count, g.m.frames)
			if g.d.Steps() != steps || len(g.d.Pending()) != waiting {
				t.Fatal("a step is made")
			}
			if g.below(3) == 0 {
				dirty := len(g.p.Dirty())
				if e := g.p.Flush(); e == api.OK && dirty > 0 && g.d.Steps() != steps+dirty+1 {
					t.Fatalf("Flush: %d steps of %d pages", g.d.Steps()-steps, dirty)
				}
			}
		}
	}
}
