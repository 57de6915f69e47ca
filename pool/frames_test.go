package pool_test

import (
	"math"
	"slices"
	"testing"

	"tabulary/api"
	"tabulary/disk"
	"tabulary/pool"
)

// Room (P11.2 and P11.3)

// wantBusy asks that no page that is not held can be: neither got nor put; those that are held can be.
func wantBusy(t *testing.T, p *pool.Pool) {
	t.Helper()
	f, d, h := p.Fresh(), p.Dirty(), p.Held()
	for no := range p.Count() {
		if !slices.Contains(h, no) {
			wantNoGet(t, p, no, api.ErrBusy)
			wantPut(t, p, no, with(no, "busy"), api.ErrBusy)
		} else if _, e := p.Get(no); e != api.OK {
			t.Fatalf("Get(%d): error %d, and it is held", no, e)
		}
	}
	wantFrames(t, p, f, d, h)
}

func TestNoFrameIsClean(t *testing.T) {
	for _, frames := range []int{1, 2, 3, 7} {
		p := open(t, laid(t, 1, 9), 1, 9, frames)
		for no := range frames {
			puts(t, p, "x", no)
		}
		wantBusy(t, p) // all fresh
		wantAccept(t, p, frames)
		wantBusy(t, p) // all dirty
		puts(t, p, "y", 0)
		wantBusy(t, p) // fresh and dirty
		wantDrop(t, p, 1)
		wantBusy(t, p) // dirty again
		wantFlush(t, p, api.OK)
		gets(t, p, 8)
		if h := p.Held(); len(h) != frames || h[frames-1] != 8 {
			t.Fatalf("held %v", h)
		}
	}
}

// The only clean frame is given up, however young it is; then none is left.
func TestOneFrameIsClean(t *testing.T) {
	for _, accepted := range []bool{false, true} {
		begin := func() *pool.Pool {
			p := open(t, laid(t, 1, 9), 1, 9, 3)
			puts(t, p, "x", 4, 2)
			if accepted {
				wantAccept(t, p, 2)
			}
			gets(t, p, 3)
			return p
		}
		p := begin()
		for _, no := range []int{5, 3, 0, 8} {
			gets(t, p, no)
			h := []int{2, 4, no}
			slices.Sort(h)
			if !slices.Equal(p.Held(), h) {
				t.Fatalf("held %v, not %v", p.Held(), h)
			}
		}
		p = begin()
		puts(t, p, "y", 5)
		if !slices.Equal(p.Held(), []int{2, 4, 5}) {
			t.Fatalf("held %v", p.Held())
		}
		wantBusy(t, p)
		wantDrop(t, p, len(p.Fresh())) // frames are free again
		gets(t, p, 3)
	}
}

// Fresh and dirty frames are older than the clean ones, and stay.
func TestTheOldestCleanFrameIsGivenUp(t *testing.T) {
	begin := func() *pool.Pool {
		p := open(t, laid(t, 1, 12), 1, 12, 5)
		puts(t, p, "x", 9)
		wantAccept(t, p, 1)
		puts(t, p, "y", 8)
		gets(t, p, 2, 0, 1)
		return p
	}
	for _, x := range []struct {
		again []int // got again, ahead
		out   []int // given up, one behind the other
	}{
		{nil, []int{2, 0, 1}},
		{[]int{2}, []int{0, 1, 2}},
		{[]int{0}, []int{2, 1, 0}},
		{[]int{1}, []int{2, 0, 1}},
		{[]int{1, 0}, []int{2, 1, 0}},
		{[]int{1, 0, 2}, []int{1, 0, 2}},
		{[]int{2, 2, 0, 2}, []int{1, 0, 2}},
	} {
		for _, put := range []bool{false, true} {
			p := begin()
			gets(t, p, x.again...)
			for i, no := range x.out {
				if put {
					puts(t, p, "z", 3+i)
				} else {
					gets(t, p, 3+i)
				}
				h := p.Held()
				if slices.Contains(h, no) || !slices.Contains(h, 3+i) || len(h) != 5 || !slices.Contains(h, 9) || !slices.Contains(h, 8) {
					t.Fatalf("held %v: %d of %v is to be given up", h, no, x.out)
				}
			}
			if put {
				wantBusy(t, p)
			} else {
				gets(t, p, 6) // those that were got are given up in their turn
				wantFrames(t, p, []int{8}, []int{9}, []int{4, 5, 6, 8, 9})
			}
		}
	}
}

// A free frame is taken ahead of one that is given up.
func TestFreeFramesAreTakenFirst(t *testing.T) {
	p := open(t, laid(t, 1, 9), 1, 9, 3)
	gets(t, p, 5, 6)
	puts(t, p, "x", 7)
	wantFrames(t, p, []int{7}, nil, []int{5, 6, 7})
	wantDrop(t, p, 1)
	wantFrames(t, p, nil, nil, []int{5, 6})
	gets(t, p, 8)
	wantFrames(t, p, nil, nil, []int{5, 6, 8})
	puts(t, p, "x", 5) // held: it needs no room
	wantFrames(t, p, []int{5}, nil, []int{5, 6, 8})
	puts(t, p, "x", 0)
	wantFrames(t, p, []int{0, 5}, nil, []int{0, 5, 8})
}

// Ages

// settle accepts and flushes, so that all frames are clean, each of its age.
func settle(t *testing.T, p *pool.Pool) {
	t.Helper()
	p.Accept()
	wantFlush(t, p, api.OK)
}

func TestWhatIsGotOrPutIsTheYoungest(t *testing.T) {
	for _, x := range []struct {
		do    func(p *pool.Pool)
		order []int
	}{
		{func(p *pool.Pool) {}, []int{0, 1, 2}},
		{func(p *pool.Pool) { gets(t, p, 0) }, []int{1, 2, 0}},
		{func(p *pool.Pool) { gets(t, p, 1) }, []int{0, 2, 1}},
		{func(p *pool.Pool) { puts(t, p, "x", 0) }, []int{1, 2, 0}},
		{func(p *pool.Pool) { puts(t, p, "x", 1) }, []int{0, 2, 1}},
		{func(p *pool.Pool) { puts(t, p, "x", 1, 0, 1) }, []int{2, 0, 1}},
		{func(p *pool.Pool) { puts(t, p, "x", 0); gets(t, p, 1) }, []int{2, 0, 1}},
		{func(p *pool.Pool) { puts(t, p, "x", 0, 1); wantGet(t, p, 0, with(0, "x")) }, []int{2, 1, 0}},
		{func(p *pool.Pool) { puts(t, p, "x", 1, 2, 0); p.Accept() }, []int{1, 2, 0}},
		{func(p *pool.Pool) { puts(t, p, "x", 1, 0); p.Accept(); wantGet(t, p, 1, with(1, "x")) }, []int{2, 0, 1}},
		{func(p *pool.Pool) { puts(t, p, "x", 0); p.Accept(); puts(t, p, "y", 1, 0); p.Accept() }, []int{2, 1, 0}},
		{func(p *pool.Pool) { puts(t, p, "x", 0); settle(t, p); gets(t, p, 1) }, []int{2, 0, 1}},
	} {
		p := open(t, laid(t, 1, 9), 1, 9, 3)
		gets(t, p, 0, 1, 2)
		x.do(p)
		settle(t, p)
		wantAges(t, p, 3, x.order...)
	}
}

// Neither the lists, nor Count, Accept, Drop and Flush, make a page younger.
func TestOtherCallsLeaveTheAges(t *testing.T) {
	p := open(t, laid(t, 1, 9), 1, 9, 3)
	gets(t, p, 2)
	puts(t, p, "x", 0, 1)
	for range 3 {
		p.Fresh()
		p.Dirty()
		p.Held()
		p.Count()
		p.Accept()
		p.Drop()
		wantFlush(t, p, api.OK)
	}
	wantAges(t, p, 3, 2, 0, 1)
}

// Calls that are refused leave what is held, and the ages, as they were.
func TestRefusedCallsLeaveTheAges(t *testing.T) {
	begin := func(frames int) (*disk.Disk, *pool.Pool) {
		d := laid(t, 1, 9)
		lay(t, d, 9, make([]byte, 256)) // the page 8 is none
		p := open(t, d, 1, 9, frames)
		gets(t, p, 1, 0, 2)
		return d, p
	}
	for name, refused := range map[string]func(d *disk.Disk, p *pool.Pool){
		"Get of no page":           func(_ *disk.Disk, p *pool.Pool) { wantNoGet(t, p, 9, api.ErrInvalid) },
		"Get of a spoilt one":      func(_ *disk.Disk, p *pool.Pool) { wantNoGet(t, p, 8, api.ErrSum) },
		"Put of no page":           func(_ *disk.Disk, p *pool.Pool) { wantPut(t, p, 9, with(9, "x"), api.ErrInvalid) },
		"Put of no bytes":          func(_ *disk.Disk, p *pool.Pool) { wantPut(t, p, 1, nil, api.ErrForm) },
		"Put of no bytes, unheld":  func(_ *disk.Disk, p *pool.Pool) { wantPut(t, p, 4, nil, api.ErrForm) },
		"Put of another number":    func(_ *disk.Disk, p *pool.Pool) { wantPut(t, p, 1, with(0, "x"), api.ErrStale) },
		"Put of another, unheld":   func(_ *disk.Disk, p *pool.Pool) { wantPut(t, p, 4, with(1, "x"), api.ErrStale) },
		"Flush while one is fresh": func(_ *disk.Disk, p *pool.Pool) { puts(t, p, "x", 2); wantFlush(t, p, api.ErrState); p.Accept() },
		"Flush and Get without power": func(d *disk.Disk, p *pool.Pool) {
			puts(t, p, "x", 2)
			p.Accept()
			on, _ := d.Lose(api.Loss{Torn: -1})
			d.Cut(0)
			wantFlush(t, p, api.ErrDown)
			wantNoGet(t, p, 3, api.ErrDown)
			*d = *on
		},
	} {
		d, p := begin(3)
		h := p.Held()
		refused(d, p)
		if !slices.Equal(p.Held(), h) {
			t.Fatalf("%s: held %v, then %v", name, h, p.Held())
		}
		settle(t, p)
		wantAges(t, p, 3, 1, 0, 2)
	}
	// ErrBusy, of a page that is not held.
	_, p := begin(3)
	puts(t, p, "x", 1, 0, 2)
	for _, no := range []int{3, 8, math.MaxInt} {
		p.Get(no)
		p.Put(no, with(3, "y"))
	}
	settle(t, p)
	wantAges(t, p, 3, 1, 0, 2)
}

// P11.4

func TestLists(t *testing.T) {
	p := open(t, laid(t, 1, 12), 1, 12, 12)
	gets(t, p, 11, 3, 7, 0)
	wantFrames(t, p, nil, nil, []int{0, 3, 7, 11})
	puts(t, p, "x", 10, 2, 7)
	wantFrames(t, p, []int{2, 7, 10}, nil, []int{0, 2, 3, 7, 10, 11})
	wantAccept(t, p, 3)
	wantFrames(t, p, nil, []int{2, 7, 10}, []int{0, 2, 3, 7, 10, 11})
	puts(t, p, "y", 11, 10, 6, 2) // 10 and 2 are fresh and were dirty
	wantFrames(t, p, []int{2, 6, 10, 11}, []int{2, 7, 10}, []int{0, 2, 3, 6, 7, 10, 11})
	wantDrop(t, p, 4)
	wantFrames(t, p, nil, []int{2, 7, 10}, []int{0, 2, 3, 7, 10})
	wantFlush(t, p, api.OK)
	wantFrames(t, p, nil, nil, []int{0, 2, 3, 7, 10})
}

func TestListsAreNewMemory(t *testing.T) {
	p := open(t, laid(t, 1, 9), 1, 9, 9)
	gets(t, p, 4)
	puts(t, p, "x", 5, 3)
	wantAccept(t, p, 2)
	puts(t, p, "x", 6, 2)
	for range 2 {
		for _, l := range [][]int{p.Fresh(), p.Dirty(), p.Held()} {
			l = l[:cap(l)]
			for i := range l {
				l[i] = 77
			}
		}
		wantFrames(t, p, []int{2, 6}, []int{3, 5}, []int{2, 3, 4, 5, 6})
	}
}

// P11.5

func TestNothingToAcceptOrDrop(t *testing.T) {
	d := laid(t, 1, 4)
	p := open(t, d, 1, 4, 3)
	steps := d.Steps()
	ask := func() {
		t.Helper()
		f, y, h := p.Fresh(), p.Dirty(), p.Held()
		wantAccept(t, p, 0)
		wantDrop(t, p, 0)
		wantFrames(t, p, f, y, h)
	}
	ask()
	gets(t, p, 1)
	ask()
	puts(t, p, "x", 2)
	wantAccept(t, p, 1)
	ask()
	if d.Steps() != steps {
		t.Fatal("Accept or Drop makes a step")
	}
	wantFlush(t, p, api.OK)
	ask()
	puts(t, p, "y", 1)
	wantDrop(t, p, 1)
	ask()
	wantGet(t, p, 2, with(2, "x"))
}

// A page that was dirty is put again, once, twice, or with a Get between, and dropped: what it was as a dirty frame, as young as the last Get or Put made it.
func TestDropOfWhatWasDirty(t *testing.T) {
	for name, x := range map[string]struct {
		again func(p *pool.Pool)
		order []int
	}{
		"once":          {func(p *pool.Pool) { puts(t, p, "y", 0) }, []int{1, 2, 0}},
		"twice":         {func(p *pool.Pool) { puts(t, p, "y", 0); puts(t, p, "z", 0) }, []int{1, 2, 0}},
		"the same":      {func(p *pool.Pool) { puts(t, p, "x", 0) }, []int{1, 2, 0}},
		"got between":   {func(p *pool.Pool) { puts(t, p, "y", 0); wantGet(t, p, 0, with(0, "y")); puts(t, p, "z", 0) }, []int{1, 2, 0}},
		"got behind":    {func(p *pool.Pool) { puts(t, p, "y", 0); wantGet(t, p, 0, with(0, "y")) }, []int{1, 2, 0}},
		"the midst":     {func(p *pool.Pool) { puts(t, p, "y", 1) }, []int{0, 2, 1}},
		"the youngest":  {func(p *pool.Pool) { puts(t, p, "y", 2) }, []int{0, 1, 2}},
		"two":           {func(p *pool.Pool) { puts(t, p, "y", 1, 0) }, []int{2, 1, 0}},
		"two, got":      {func(p *pool.Pool) { puts(t, p, "y", 1, 0); wantGet(t, p, 1, with(1, "y")) }, []int{2, 0, 1}},
		"all":           {func(p *pool.Pool) { puts(t, p, "y", 2, 0, 1) }, []int{2, 0, 1}},
		"another got":   {func(p *pool.Pool) { puts(t, p, "y", 0); wantGet(t, p, 1, with(1, "x")) }, []int{2, 0, 1}},
		"dropped ahead": {func(p *pool.Pool) { puts(t, p, "y", 0); wantDrop(t, p, 1); puts(t, p, "z", 1) }, []int{2, 0, 1}},
		"dropped twice": {func(p *pool.Pool) { puts(t, p, "y", 0, 1); wantDrop(t, p, 2); puts(t, p, "z", 0) }, []int{2, 1, 0}},
		"refused":       {func(p *pool.Pool) { puts(t, p, "y", 0, 1); wantPut(t, p, 0, with(1, "z"), api.ErrStale) }, []int{2, 0, 1}},
	} {
		begin := func() *pool.Pool {
			p := open(t, laid(t, 1, 9), 1, 9, 3)
			puts(t, p, "x", 0, 1, 2)
			wantAccept(t, p, 3)
			x.again(p)
			fresh := p.Fresh()
			wantFrames(t, p, fresh, []int{0, 1, 2}, []int{0, 1, 2})
			wantDrop(t, p, len(fresh))
			wantFrames(t, p, nil, []int{0, 1, 2}, []int{0, 1, 2})
			return p
		}
		t.Run(name, func(t *testing.T) {
			p := begin()
			wantFlush(t, p, api.OK)
			wantAges(t, p, 3, x.order...)
			p = begin()
			for no := range 3 {
				wantGet(t, p, no, with(no, "x"))
			}
			wantBusy(t, p)
		})
	}
}

// It is of its age among pages that were got in the meantime, too.
func TestDropOfAnAgeBetweenOthers(t *testing.T) {
	p := open(t, laid(t, 1, 12), 1, 12, 4)
	gets(t, p, 0)
	puts(t, p, "x", 1)
	wantAccept(t, p, 1)
	gets(t, p, 2, 3)
	puts(t, p, "y", 1)
	gets(t, p, 2)
	wantDrop(t, p, 1)
	wantFlush(t, p, api.OK)
	wantAges(t, p, 4, 0, 3, 1, 2)
	// A Get of the dirty page, ahead of the Put, does not count any more.
	p = open(t, laid(t, 1, 12), 1, 12, 3)
	puts(t, p, "x", 0, 1, 2)
	wantAccept(t, p, 3)
	wantGet(t, p, 0, with(0, "x"))
	wantGet(t, p, 1, with(1, "x"))
	puts(t, p, "y", 0)
	wantDrop(t, p, 1)
	wantFlush(t, p, api.OK)
	wantAges(t, p, 3, 2, 1, 0)
	// A Get behind Drop makes it the youngest.
	p = open(t, laid(t, 1, 12), 1, 12, 3)
	puts(t, p, "x", 0, 1, 2)
	wantAccept(t, p, 3)
	puts(t, p, "y", 1, 0)
	wantDrop(t, p, 2)
	wantGet(t, p, 1, with(1, "x"))
	wantFlush(t, p, api.OK)
	wantAges(t, p, 3, 2, 0, 1)
}

// A page that was put last is not given up for another one, though what was put is dropped.
func TestDropGivesUpTheOlderPage(t *testing.T) {
	for _, got := range []bool{false, true} {
		p := open(t, newDisk(t, 3), 0, 3, 2)
		puts(t, p, "x", 0, 1)
		wantAccept(t, p, 2)
		puts(t, p, "y", 0)
		if got {
			wantGet(t, p, 0, with(0, "y"))
		}
		wantDrop(t, p, 1)
		wantFlush(t, p, api.OK)
		puts(t, p, "z", 2)
		wantFrames(t, p, []int{2}, nil, []int{0, 2})
		wantGet(t, p, 0, with(0, "x"))
	}
}

// A page that was dirty is put again and accepted: what was put last, of that age.
func TestAcceptOfWhatWasDirty(t *testing.T) {
	for times := 1; times < 4; times++ {
		d := laid(t, 1, 9)
		p := open(t, d, 1, 9, 3)
		puts(t, p, "x", 0, 1, 2)
		wantAccept(t, p, 3)
		for i := range times {
			puts(t, p, string(rune('a'+i)), 0)
		}
		last := with(0, string(rune('a'+times-1)))
		wantAccept(t, p, 1)
		wantFrames(t, p, nil, []int{0, 1, 2}, []int{0, 1, 2})
		wantDrop(t, p, 0) // what it was is gone
		puts(t, p, "zz", 0)
		wantDrop(t, p, 1)
		wantFlush(t, p, api.OK)
		wantAges(t, p, 3, 1, 2, 0)
		wantGet(t, p, 0, last)
		wantSector(t, d, 1, sealed(last))
	}
}

// A page that was clean is put and dropped: it is not held any more, and lies on the disk as it did.
func TestDropOfWhatWasClean(t *testing.T) {
	for times := 1; times < 4; times++ {
		d := laid(t, 1, 9)
		p := open(t, d, 1, 9, 3)
		gets(t, p, 0, 1, 2)
		for range times {
			puts(t, p, "x", 1)
		}
		wantFrames(t, p, []int{1}, nil, []int{0, 1, 2})
		wantDrop(t, p, 1)
		wantFrames(t, p, nil, nil, []int{0, 2})
		gets(t, p, 1)
		wantFrames(t, p, nil, nil, []int{0, 1, 2})
		wantFlush(t, p, api.OK)
		wantSector(t, d, 2, sealed(first(1)))
		// One that was flushed is clean, too: it is no dirty frame any more.
		puts(t, p, "x", 1)
		settle(t, p)
		puts(t, p, "y", 1)
		wantFrames(t, p, []int{1}, nil, []int{0, 1, 2})
		wantDrop(t, p, 1)
		wantFrames(t, p, nil, nil, []int{0, 2})
		wantGet(t, p, 1, with(1, "x"))
	}
}

// A page that was not held is put and dropped, with and without one given up for it.
func TestDropOfWhatWasNotHeld(t *testing.T) {
	p := open(t, newDisk(t, 9), 1, 8, 3)
	puts(t, p, "x", 5)
	wantDrop(t, p, 1)
	wantFrames(t, p, nil, nil, nil)
	wantNoGet(t, p, 5, api.ErrSum)

	p = open(t, laid(t, 1, 8), 1, 8, 2)
	gets(t, p, 0, 1)
	puts(t, p, "x", 5)
	wantFrames(t, p, []int{5}, nil, []int{1, 5})
	wantDrop(t, p, 1)
	wantFrames(t, p, nil, nil, []int{1}) // the one that was given up does not come back
	gets(t, p, 5)
}

// Of several fresh pages each is dropped by what it was.
func TestDropOfSeveral(t *testing.T) {
	p := open(t, laid(t, 1, 9), 1, 9, 6)
	gets(t, p, 0, 1)
	puts(t, p, "x", 2, 3)
	wantAccept(t, p, 2)
	puts(t, p, "y", 1, 2, 4)
	wantDrop(t, p, 3)
	wantFrames(t, p, nil, []int{2, 3}, []int{0, 2, 3})
	wantGet(t, p, 2, with(2, "x"))
	wantGet(t, p, 3, with(3, "x"))
	gets(t, p, 0, 1, 4)
	wantAccept(t, p, 0)
	wantDrop(t, p, 0)
}

// P11.6

func TestFlushWithNothingToDo(t *testing.T) {
	d := laid(t, 1, 4)
	d.Write(5, with(9, "waits")) // another one's
	steps := d.Steps()
	p := open(t, d, 1, 4, 2)
	wantFlush(t, p, api.OK)
	gets(t, p, 0)
	wantFlush(t, p, api.OK)
	puts(t, p, "x", 1)
	wantDrop(t, p, 1)
	wantFlush(t, p, api.OK)
	wantFrames(t, p, nil, nil, []int{0})
	if d.Steps() != steps || !slices.Equal(d.Pending(), []int{5}) {
		t.Fatal("a Flush with nothing to do makes a step")
	}
	d.Cut(0) // no power is asked
	wantFlush(t, p, api.OK)
	wantFrames(t, p, nil, nil, []int{0})
}

func TestFlushWhileAPageIsFresh(t *testing.T) {
	for _, cut := range []bool{false, true} {
		d := laid(t, 1, 4)
		p := open(t, d, 1, 4, 3)
		steps := d.Steps()
		if cut {
			d.Cut(0)
		}
		ask := func(fresh, dirty []int) {
			t.Helper()
			wantFlush(t, p, api.ErrState)
			wantFrames(t, p, fresh, dirty, []int{1, 2})
			if d.Steps() != steps || len(d.Pending()) != 0 {
				t.Fatal("something is written")
			}
		}
		puts(t, p, "x", 1, 2)
		ask([]int{1, 2}, nil)
		wantAccept(t, p, 2)
		puts(t, p, "y", 2)
		ask([]int{2}, []int{1, 2})
		wantGet(t, p, 2, with(2, "y"))
		wantDrop(t, p, 1)
		if cut {
			wantFlush(t, p, api.ErrDown)
			continue
		}
		wantFlush(t, p, api.OK)
		wantSector(t, d, 3, sealed(with(2, "x")))
	}
}

// The dirty pages alone are written, rising, sealed; then the disk is synced.
func TestFlushWritesRising(t *testing.T) {
	for _, nos := range [][]int{{0}, {3}, {5, 1}, {4, 0, 2}, {1, 2, 3}, {5, 4, 3, 2, 1, 0}} {
		rising := slices.Sorted(slices.Values(nos))
		for cut := range len(nos) + 2 {
			d := laid(t, 3, 6)
			p := open(t, d, 3, 6, 6)
			gets(t, p, 1, 4)
			puts(t, p, "x", nos...)
			wantAccept(t, p, len(nos))
			steps, held := d.Steps(), p.Held()
			d.Cut(cut)
			if cut > len(nos) {
				wantFlush(t, p, api.OK)
				wantFrames(t, p, nil, nil, held)
			} else {
				wantFlush(t, p, api.ErrDown)
				wantFrames(t, p, nil, rising, held)
			}
			wantWaiting(t, d, 3, rising[:min(cut, len(nos))], cut > len(nos))
			if d.Steps() != steps+cut {
				t.Fatalf("%d steps, not %d", d.Steps()-steps, cut)
			}
			for _, no := range nos {
				wantGet(t, p, no, with(no, "x"))
			}
		}
	}
}

// wantWaiting asks which pages were written, in their order, with which bytes, and whether they were synced; all others lie there as they were laid.
func wantWaiting(t *testing.T, d *disk.Disk, from int, nos []int, synced bool) {
	t.Helper()
	var sectors []int
	l := api.Loss{Torn: -1}
	for _, no := range nos {
		sectors = append(sectors, from+no)
		l.Kept = append(l.Kept, true)
	}
	if synced {
		sectors, l.Kept = nil, nil
	}
	if !slices.Equal(d.Pending(), sectors) {
		t.Fatalf("%v wait, not %v", d.Pending(), sectors)
	}
	after, _ := d.Lose(l)
	for i := range d.Size() {
		no := i - from
		switch {
		case slices.Contains(nos, no):
			wantSector(t, after, i, sealed(with(no, "x")))
		case no >= 0 && no < d.Size()-from-2:
			wantSector(t, after, i, sealed(first(no)))
		default:
			wantSector(t, after, i, make([]byte, 256))
		}
	}
}

// What a Flush that is refused left dirty is flushed by the next one: all of it, though some was written.
func TestFlushAgain(t *testing.T) {
	for cut := range 4 {
		for _, more := range []bool{false, true} {
			d := laid(t, 1, 6)
			p := open(t, d, 1, 6, 6)
			puts(t, p, "x", 4, 0, 2)
			wantAccept(t, p, 3)
			on, _ := d.Lose(api.Loss{Torn: -1})
			d.Cut(cut)
			wantFlush(t, p, api.ErrDown)
			wantFlush(t, p, api.ErrDown)
			wantFrames(t, p, nil, []int{0, 2, 4}, []int{0, 2, 4})
			nos := []int{0, 2, 4}
			if more { // the pool goes on in the meantime
				puts(t, p, "x", 3)
				wantFlush(t, p, api.ErrState)
				wantAccept(t, p, 1)
				wantFlush(t, p, api.ErrDown)
				nos = []int{0, 2, 3, 4}
				wantFrames(t, p, nil, nos, nos)
			}
			*d = *on // the power is back, and nothing was kept
			wantFlush(t, p, api.OK)
			if d.Steps() != len(nos)+1 {
				t.Fatalf("%d steps, not %d", d.Steps(), len(nos)+1)
			}
			wantFrames(t, p, nil, nil, nos)
			wantWaiting(t, d, 1, nos, true)
			wantFlush(t, p, api.OK)
			if d.Steps() != len(nos)+1 {
				t.Fatal("what is clean is written")
			}
		}
	}
}

// Each page is written once, as it was put last.
func TestFlushWritesWhatWasPutLast(t *testing.T) {
	d := laid(t, 1, 4)
	p := open(t, d, 1, 4, 4)
	puts(t, p, "a", 1, 2)
	puts(t, p, "b", 1)
	wantAccept(t, p, 2)
	puts(t, p, "c", 1)
	wantAccept(t, p, 1)
	puts(t, p, "d", 1, 3)
	wantDrop(t, p, 2)
	steps := d.Steps()
	wantFlush(t, p, api.OK)
	if d.Steps() != steps+3 {
		t.Fatalf("%d steps", d.Steps()-steps)
	}
	wantSector(t, d, 1, sealed(first(0)))
	wantSector(t, d, 2, sealed(with(1, "c")))
	wantSector(t, d, 3, sealed(with(2, "a")))
	wantSector(t, d, 4, sealed(first(3)))
	steps = d.Steps()
	puts(t, p, "e", 2)
	wantAccept(t, p, 1)
	wantFlush(t, p, api.OK) // only what is dirty by now
	if d.Steps() != steps+2 {
		t.Fatalf("%d steps", d.Steps()-steps)
	}
	wantSector(t, d, 3, sealed(with(2, "e")))
}

// A page that is written over what was spoilt, and never was written, is there.
func TestFlushOverAnything(t *testing.T) {
	for _, x := range badSectors() {
		d := newDisk(t, 5)
		lay(t, d, 3, x.b)
		p := open(t, d, 1, 4, 2)
		wantNoGet(t, p, 2, x.e)
		puts(t, p, "x", 2)
		wantAccept(t, p, 1)
		wantFlush(t, p, api.OK)
		wantGet(t, open(t, d, 1, 4, 1), 2, with(2, "x"))
	}
}
