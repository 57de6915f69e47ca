package space_test

import (
	"slices"
	"testing"

	"tabulary/api"
)

// P12.2

// All pages behind the maps are given, rising, one behind the other; then none is left.
func TestAllocOfAllPages(t *testing.T) {
	for _, n := range []int{1, 2, 3, 7, 8, 9, 16, 17, 40} {
		d, p := bare(t, n, 1)
		s := format(t, p)
		wantTaken(t, s, []int{0})
		for no := 1; no < n; no++ {
			wantAlloc(t, s, no)
			wantTaken(t, s, upTo(no+1))
			wantFrames(t, p, []int{0}, nil, []int{0})
			wantMaps(t, p, upTo(no+1))
		}
		for range 3 {
			wantNoAlloc(t, s, api.ErrFull)
			wantTaken(t, s, upTo(n))
			wantMaps(t, p, upTo(n))
		}
		if d.Steps() != 0 {
			t.Fatal("Alloc makes a step")
		}
	}
}

func TestAllocOfAllPagesOfSeveralMaps(t *testing.T) {
	for _, n := range []int{1919, 1920, 1921, 3840, 3841, 4096} {
		_, p := bare(t, n, 3)
		s := format(t, p)
		p.Accept()
		maps := mapsOf(n)
		for no := maps; no < n; no++ {
			wantAlloc(t, s, no)
			wantFrames(t, p, []int{no / 1920}, upTo(maps), upTo(maps))
			p.Accept()
			if no%1920 < 3 || no%1920 > 1917 || no%97 == 0 {
				wantTaken(t, s, upTo(no+1))
			}
		}
		wantNoAlloc(t, s, api.ErrFull)
		wantFrames(t, p, nil, upTo(maps), upTo(maps))
		wantMaps(t, p, upTo(n))
	}
}

// A pool whose pages are all maps, and pools whose pages are all taken: the bits behind the last page are no pages.
func TestAllocWhereAllAreTaken(t *testing.T) {
	for _, n := range edges() {
		d, p := laid(t, n, 3, upTo(n))
		steps := d.Steps()
		s := open(t, p)
		wantTaken(t, s, upTo(n))
		for range 2 {
			wantNoAlloc(t, s, api.ErrFull)
			wantFrames(t, p, nil, nil, upTo(mapsOf(n)))
		}
		wantMaps(t, p, upTo(n))
		if d.Steps() != steps {
			t.Fatal("a step is made")
		}
	}
}

// lone are pages that are the only ones left, at the edges of bytes and of maps.
func lone(n int) []int {
	var l []int
	for _, no := range []int{1, 2, 3, 7, 8, 9, 15, 16, 100, 1911, 1912, 1917, 1918, 1919, 1920, 1921, 1927, 1928, 3838, 3839, 3840, 3841, 3847, 3848, n - 2, n - 1} {
		if no >= mapsOf(n) && no < n && !slices.Contains(l, no) {
			l = append(l, no)
		}
	}
	return l
}

// The one page that is left is given, wherever it lies: the maps ahead of its own are got, its own is got and put, and no later one is asked for.
func TestAllocOfTheOnePageThatIsLeft(t *testing.T) {
	for _, n := range edges() {
		for _, no := range lone(n) {
			taken, k := without(upTo(n), no), no/1920
			_, p := laid(t, n, 3, taken)
			s := spaceOver(t, p)
			wantAlloc(t, s, no)
			wantFrames(t, p, []int{k}, nil, upTo(k+1))
			wantMaps(t, p, upTo(n))
			wantNoAlloc(t, s, api.ErrFull)
			wantTaken(t, s, upTo(n))
			wantFree(t, s, no, api.OK)
			wantMaps(t, p, taken)
			wantTaken(t, s, taken)
		}
	}
}

// Of several pages that are left, the least is given.
func TestAllocOfTheLeastPage(t *testing.T) {
	for _, left := range [][]int{{3, 4}, {3, 1919}, {1918, 1919}, {1919, 1920}, {1920, 1921}, {5, 13, 21, 1920, 3840}, {7, 8, 3839}, {3839, 3840}, {2000, 3999}, {3840, 3999}, {3990, 3998, 3999}} {
		_, p := laid(t, 4000, 3, without(upTo(4000), left...))
		s := open(t, p)
		for i, no := range left {
			wantAlloc(t, s, no)
			wantTaken(t, s, without(upTo(4000), left[i+1:]...))
		}
		wantNoAlloc(t, s, api.ErrFull)
	}
}

// A later map that is bad is not asked for where an earlier one has a page left.
func TestAllocAsksNoMoreMapsThanItNeeds(t *testing.T) {
	for k := range 3 {
		d, p := laid(t, 4000, 3, upTo(max(3, 1920*k)))
		for bad := k + 1; bad < 3; bad++ {
			lay(t, d, 4000, bad, make([]byte, 256))
		}
		s := spaceOver(t, p)
		wantAlloc(t, s, max(3, 1920*k), max(3, 1920*k)+1)
		wantFrames(t, p, []int{k}, nil, upTo(k+1))
	}
	// With frames for one map alone.
	_, p := laid(t, 4000, 1, upTo(1920))
	s := open(t, p)
	wantAlloc(t, s, 1920)
	wantFrames(t, p, []int{1}, nil, []int{1})
}

// Ages: the maps are got rising, and its own is put last.
func TestAllocGetsTheMapsRising(t *testing.T) {
	for k, order := range [][]int{{1, 2, 9, 0}, {2, 9, 0, 1}, {9, 0, 1, 2}} {
		_, p := laid(t, 4000, 4, upTo(max(3, 1920*k)))
		s := open(t, p)
		wantGet(t, p, 9, plain(9))
		wantAlloc(t, s, max(3, 1920*k))
		settle(t, p)
		wantGivenUp(t, p, 3, order...)
	}
	// Of ErrFull, too.
	_, p := laid(t, 4000, 4, upTo(4000))
	s := open(t, p)
	wantGet(t, p, 9, plain(9))
	p.Get(0)
	wantNoAlloc(t, s, api.ErrFull)
	wantGivenUp(t, p, 3, 9, 0, 1, 2)
}

// Alloc leaves the page itself as it is: neither got nor put.
func TestAllocLeavesThePage(t *testing.T) {
	d, p := laid(t, 20, 4, upTo(7))
	lay(t, d, 20, 7, make([]byte, 256))
	s := open(t, p)
	putPlain(t, p, 8)
	wantAlloc(t, s, 7, 8)
	wantFrames(t, p, []int{0, 8}, nil, []int{0, 8})
	wantGet(t, p, 8, plain(8))
	wantFree(t, s, 8, api.OK)
	wantFree(t, s, 7, api.OK)
	wantFrames(t, p, []int{0, 8}, nil, []int{0, 8})
	wantGet(t, p, 8, plain(8))
	if b, e := p.Get(7); e != api.ErrSum {
		t.Fatalf("the page 7: %v, error %d", b, e)
	}
}

// A call that is refused gives nothing.
func TestAllocThatIsRefusedGivesNothing(t *testing.T) {
	d, p := laid(t, 4000, 3, upTo(1920))
	s := open(t, p)
	put(t, p, 1, byWords(1, 2, "none"))
	wantNoAlloc(t, s, api.ErrForm)
	wantFrames(t, p, []int{1}, nil, []int{0, 1, 2})
	p.Drop()
	wantTaken(t, s, upTo(1920))
	p = over(t, d, 4000, 3)
	s = spaceOver(t, p)
	back, _ := d.Lose(api.Loss{Torn: -1})
	p.Get(0)
	d.Cut(0)
	wantNoAlloc(t, s, api.ErrDown)
	wantFrames(t, p, nil, nil, []int{0})
	*d = *back
	wantTaken(t, s, upTo(1920))
	wantAlloc(t, s, 1920)
}

// P12.3

func TestFreeOfNumbers(t *testing.T) {
	for _, n := range edges() {
		maps := mapsOf(n)
		d, p := laid(t, n, 3, upTo(n))
		s := spaceOver(t, p)
		for _, no := range append(farNumbers(n), upTo(maps)...) {
			wantFree(t, s, no, api.ErrInvalid)
			wantFrames(t, p, nil, nil, nil) // nothing is got
		}
		left := []int{}
		for _, no := range lone(n) {
			wantFree(t, s, no, api.OK)
			left = append(left, no)
			wantFree(t, s, no, api.ErrNone)
			wantTaken(t, s, without(upTo(n), left...))
		}
		wantMaps(t, p, without(upTo(n), left...))
		for _, no := range append(farNumbers(n), upTo(maps)...) {
			wantFree(t, s, no, api.ErrInvalid)
		}
		d.Cut(0) // ahead of what Get refuses
		p = over(t, d, n, 3)
		s = spaceOver(t, p)
		for _, no := range append(farNumbers(n), upTo(maps)...) {
			wantFree(t, s, no, api.ErrInvalid)
		}
	}
}

// Of the page's own map alone is asked, and it alone is put.
func TestFreeAsksItsMapAlone(t *testing.T) {
	for k := range 3 {
		for _, no := range []int{max(3, 1920*k), 1920*k + 100, min(1920*k+1919, 3999)} {
			d, p := laid(t, 4000, 3, upTo(4000))
			for other := range 3 {
				if other != k {
					lay(t, d, 4000, other, make([]byte, 256))
				}
			}
			s := spaceOver(t, p)
			wantFree(t, s, no, api.OK)
			wantFrames(t, p, []int{k}, nil, []int{k})
			wantGet(t, p, k, aMap(4000, k, without(upTo(4000), no)))
			wantFree(t, s, no, api.ErrNone)
			wantNoTaken(t, s, api.ErrSum)
			if k == 0 {
				wantAlloc(t, s, no)
			} else {
				wantNoAlloc(t, s, api.ErrSum)
			}
		}
	}
}

// Ages: its map is the youngest, and no other one is asked for.
func TestFreeMakesItsMapTheYoungest(t *testing.T) {
	for no, order := range map[int][]int{3: {1, 2, 9, 0}, 1919: {1, 2, 9, 0}, 1920: {0, 2, 9, 1}, 3839: {0, 2, 9, 1}, 3840: {0, 1, 9, 2}, 3999: {0, 1, 9, 2}} {
		for _, there := range []bool{true, false} {
			taken := upTo(4000)
			if !there {
				taken = without(taken, no)
			}
			_, p := laid(t, 4000, 4, taken)
			s := open(t, p)
			wantGet(t, p, 9, plain(9))
			if there {
				wantFree(t, s, no, api.OK)
				wantFrames(t, p, []int{no / 1920}, nil, []int{0, 1, 2, 9})
			} else {
				wantFree(t, s, no, api.ErrNone)
				wantFrames(t, p, nil, nil, []int{0, 1, 2, 9})
			}
			settle(t, p)
			wantGivenUp(t, p, 3, order...)
		}
	}
}

// A page that is not taken stays so, and nothing is put.
func TestFreeOfWhatIsNotTaken(t *testing.T) {
	_, p := laid(t, 20, 2, []int{0, 4})
	s := open(t, p)
	for no := 1; no < 20; no++ {
		if no != 4 {
			wantFree(t, s, no, api.ErrNone)
		}
	}
	wantFrames(t, p, nil, nil, []int{0})
	wantTaken(t, s, []int{0, 4})
	wantFree(t, s, 4, api.OK)
	wantFrames(t, p, []int{0}, nil, []int{0})
	wantFree(t, s, 4, api.ErrNone)
	wantTaken(t, s, []int{0})
}

// A call that is refused frees nothing.
func TestFreeThatIsRefusedFreesNothing(t *testing.T) {
	d, p := laid(t, 1930, 2, upTo(1925))
	s := spaceOver(t, p)
	putPlain(t, p, 5, 6)
	wantFree(t, s, 1924, api.ErrBusy)
	p.Drop()
	back, _ := d.Lose(api.Loss{Torn: -1})
	d.Cut(0)
	wantFree(t, s, 1924, api.ErrDown)
	*d = *back
	put(t, p, 1, byWords(1, 3, cell(1930, 1, upTo(1925))))
	wantFree(t, s, 1924, api.ErrForm)
	wantFree(t, s, 1926, api.ErrForm) // ahead of ErrNone
	wantFrames(t, p, []int{1}, nil, []int{1})
	p.Drop()
	wantTaken(t, s, upTo(1925))
}

// Pages that are given and freed, one behind the other.
func TestAllocAndFree(t *testing.T) {
	_, p := bare(t, 10, 2)
	s := format(t, p)
	p.Accept()
	taken := []int{0}
	for _, no := range []int{1, 2, 3, 4, -2, 2, 5, -1, -4, 1, 4, 6, 7, -7, 7, 8, 9, -9, -8, -3, 3, 8, 9, -5, -6, -7, 5, 6, 7} {
		if no > 0 {
			wantAlloc(t, s, no)
			taken = append(taken, no)
		} else {
			wantFree(t, s, -no, api.OK)
			taken = without(taken, -no)
			wantFree(t, s, -no, api.ErrNone)
		}
		slices.Sort(taken)
		wantTaken(t, s, taken)
		wantFrames(t, p, []int{0}, []int{0}, []int{0})
		wantMaps(t, p, taken)
	}
	wantNoAlloc(t, s, api.ErrFull)
}

// P12.4

// Taken and Left get each map, rising, and put nothing.
func TestTakenGetsTheMapsRising(t *testing.T) {
	for _, left := range []bool{false, true} {
		d, p := laid(t, 4000, 4, upTo(3900))
		s := open(t, p)
		p.Get(1)
		wantGet(t, p, 9, plain(9))
		p.Get(0)
		steps := d.Steps()
		ask := func() {
			t.Helper()
			if left {
				if n, e := s.Left(); n != 100 || e != api.OK {
					t.Fatalf("Left: %d, error %d", n, e)
				}
			} else if l, e := s.Taken(); e != api.OK || !slices.Equal(l, upTo(3900)) {
				t.Fatalf("Taken: %d pages, error %d", len(l), e)
			}
		}
		ask()
		wantFrames(t, p, nil, nil, []int{0, 1, 2, 9})
		wantGivenUp(t, p, 3, 9, 0, 1, 2)
		ask()
		wantFrames(t, p, nil, nil, []int{0, 1, 2, 6})
		if d.Steps() != steps {
			t.Fatal("a step is made")
		}
	}
}

func TestTakenIsNewMemory(t *testing.T) {
	_, p := laid(t, 1930, 2, []int{0, 1, 5, 1919, 1920, 1929})
	s := open(t, p)
	need := []int{0, 1, 5, 1919, 1920, 1929}
	for range 2 {
		l, _ := s.Taken()
		m, _ := s.Taken()
		l = l[:cap(l)]
		for i := range l {
			l[i] = 77
		}
		if !slices.Equal(m, need) {
			t.Fatalf("two lists share memory: %v", m)
		}
		wantTaken(t, s, need)
	}
}

func TestLeft(t *testing.T) {
	for _, n := range edges() {
		maps := mapsOf(n)
		_, p := bare(t, n, 3)
		s := format(t, p)
		for i := range min(n-maps, 20) {
			if left, e := s.Left(); left != n-maps-i || e != api.OK {
				t.Fatalf("Left of %d: %d, error %d", n, left, e)
			}
			wantAlloc(t, s, maps+i)
		}
	}
}
