package blob_test

import (
	"fmt"
	"testing"

	"tabulary/api"
)

// P13.4

// Each page is freed; what they have stays as it is, and is still told, as that does not ask whether a page is taken.
func TestFree(t *testing.T) {
	for _, n := range sizes() {
		for _, nos := range chains(counted(n)) {
			d := laidBlob(t, nos, some(n))
			p := over(t, d, 60, 30)
			s := open(t, p)
			steps := d.Steps()
			wantFree(t, s, nos[0], api.OK)
			wantFrames(t, p, []int{0}, nil, sorted([]int{0}, nos))
			wantLeft(t, s, sorted(nos)...)
			wantPages(t, p, pagesOf(nos, some(n)))
			for range 2 {
				wantFree(t, s, nos[0], api.ErrNone)
				wantLeft(t, s, sorted(nos)...)
				wantBlob(t, s, nos, some(n))
			}
			p.Drop()
			wantLeft(t, s)
			wantFree(t, s, nos[0], api.OK)
			wantLeft(t, s, sorted(nos)...)
			if d.Steps() != steps {
				t.Fatal("Free makes a step")
			}
		}
	}
}

// What was left stays so, and what is taken by others too.
func TestFreeLeavesOthers(t *testing.T) {
	nos, b := []int{9, 4, 20}, some(600)
	d := laid(t, 60, 3, 10, 21, 59)
	layAll(t, d, 60, pagesOf(nos, b))
	layAll(t, d, 60, pagesOf([]int{5, 11}, b[:400]))
	p := over(t, d, 60, 30)
	s := open(t, p)
	put(t, p, 12, plain(12))
	p.Accept()
	put(t, p, 13, plain(13))
	wantFree(t, s, 9, api.OK)
	wantLeft(t, s, 3, 4, 9, 10, 20, 21, 59)
	wantFrames(t, p, []int{0, 13}, []int{12}, []int{0, 4, 9, 12, 13, 20})
	wantBlob(t, s, []int{5, 11}, b[:400])
	wantFree(t, s, 5, api.OK)
	wantLeft(t, s, 3, 4, 5, 9, 10, 11, 20, 21, 59)
}

// Ages: the pages are got, then each one's map is got and put, from the first page on.
func TestFreeFromTheFirstPageOn(t *testing.T) {
	for _, x := range []struct{ nos, order []int }{
		{[]int{5, 2000, 3841}, []int{100, 5, 2000, 3841, 0, 1, 2}},
		{[]int{3841, 2000, 5}, []int{100, 3841, 2000, 5, 2, 1, 0}},
		{[]int{3841, 5, 2000}, []int{100, 3841, 5, 2000, 2, 0, 1}},
		{[]int{2000, 3841, 5}, []int{100, 2000, 3841, 5, 1, 2, 0}},
		{[]int{3841, 3842, 2000}, []int{0, 100, 3841, 3842, 2000, 2, 1}},
		{[]int{2000, 3842, 2001}, []int{0, 100, 2000, 3842, 2001, 2, 1}},
		{[]int{7, 6, 5}, []int{1, 2, 100, 7, 6, 5, 0}},
	} {
		d := laid(t, 4000)
		layAll(t, d, 4000, pagesOf(x.nos, some(600)))
		lay(t, d, 4000, 100, sealed(plain(100)))
		p := over(t, d, 4000, 7)
		s := open(t, p)
		wantPage(t, p, 100, plain(100))
		wantFree(t, s, x.nos[0], api.OK)
		var changed []int
		for _, no := range x.nos {
			changed = append(changed, no/1920)
		}
		wantFrames(t, p, sorted(changed), nil, sorted(x.order))
		settle(t, p)
		wantGivenUp(t, p, x.order...)
		wantLeft(t, open(t, over(t, d, 4000, 3)), sorted(x.nos)...)
	}
}

// A page is not taken: those ahead of it stay freed, those behind stay taken, and Drop undoes that.
func TestFreeOfPagesThatAreNotTaken(t *testing.T) {
	nos, b := []int{9, 4, 20, 6, 31}, some(1100)
	for not := 1; not < 32; not++ { // a bit for each page that is not taken
		var left []int
		first := -1
		for i, no := range nos {
			if not>>i&1 == 1 {
				left = append(left, no)
				if first < 0 {
					first = i
				}
			}
		}
		d := laid(t, 60, left...)
		layAll(t, d, 60, pagesOf(nos, b))
		p := over(t, d, 60, 30)
		s := open(t, p)
		wantFree(t, s, 9, api.ErrNone)
		var fresh []int
		if first > 0 {
			fresh = []int{0}
		}
		wantFrames(t, p, fresh, nil, sorted([]int{0}, nos))
		wantLeft(t, s, sorted(left, nos[:first])...)
		wantBlob(t, s, nos, b)
		p.Drop()
		wantLeft(t, s, sorted(left)...)
	}
}

// A map is refused: what its own maps had of the pages ahead stays freed.
func TestFreeWhereAMapIsRefused(t *testing.T) {
	b := some(900)
	for name, x := range badMaps(2000) {
		for _, nos := range [][]int{{1950, 5, 1960, 7}, {5, 1950, 7, 1960}, {5, 7, 1950, 1960}, {5, 6, 7, 1950}} {
			t.Run(fmt.Sprint(name, nos), func(t *testing.T) {
				d := laid(t, 2000)
				layAll(t, d, 2000, pagesOf(nos, b))
				lay(t, d, 2000, 1, x.b)
				p := over(t, d, 2000, 9)
				s := spaceOver(t, p)
				wantFree(t, s, nos[0], x.e)
				var freed []int
				for _, no := range nos {
					if no > 1919 {
						break
					}
					freed = append(freed, no)
				}
				got := x.got
				if len(freed) == 0 { // the first map is not asked for
					got = got[1:]
				}
				wantFrames(t, p, []int{0}[:min(len(freed), 1)], nil, sorted(nos, got))
				wantPage(t, p, 0, aMap(2000, 0, freed))
				wantBlob(t, s, nos, b)
				p.Drop()
				wantPage(t, p, 0, aMap(2000, 0, nil))
			})
		}
	}
}

// The power is off; all pages are held, and some of the maps.
func TestFreeWithoutPower(t *testing.T) {
	for _, nos := range [][]int{{5, 1950, 7}, {1950, 5, 1960}, {5, 6, 1950}, {1950, 1960, 7}, {5, 6, 7}, {1950, 1951, 1952}} {
		for held := range 4 {
			d := laid(t, 2000)
			layAll(t, d, 2000, pagesOf(nos, some(700)))
			p := over(t, d, 2000, 9)
			s := spaceOver(t, p)
			for k := range 2 {
				if held>>k&1 == 1 {
					p.Get(k)
				}
			}
			wantBlob(t, s, nos, some(700))
			h := p.Held()
			d.Cut(0)
			var freed, maps []int
			need := api.OK
			for _, no := range nos {
				if held>>(no/1920)&1 == 0 {
					need = api.ErrDown
					break
				}
				freed, maps = append(freed, no), append(maps, no/1920)
			}
			wantFree(t, s, nos[0], need)
			wantFrames(t, p, sorted(maps), nil, h)
			for k := range 2 {
				if held>>k&1 == 1 {
					wantPage(t, p, k, aMap(2000, k, freed))
				}
			}
			wantBlob(t, s, nos, some(700))
		}
	}
}

// The pages' own frames, if they are clean, are given up for the maps; once one map is put, there is none for another one.
func TestFreeWithOneFrame(t *testing.T) {
	for _, x := range []struct {
		nos   []int
		freed int
	}{{[]int{5, 6, 7}, 3}, {[]int{7, 5, 6}, 3}, {[]int{1950, 1951, 1952}, 3}, {[]int{5, 6, 1950}, 2}, {[]int{5, 1950, 6}, 1}, {[]int{1950, 5, 6}, 1}, {[]int{1950, 1960, 6}, 2}} {
		d := laid(t, 2000)
		layAll(t, d, 2000, pagesOf(x.nos, some(700)))
		p := over(t, d, 2000, 2)
		s := spaceOver(t, p)
		put(t, p, 1990, plain(1990))
		need := api.OK
		if x.freed < 3 {
			need = api.ErrBusy
		}
		wantFree(t, s, x.nos[0], need)
		k := x.nos[0] / 1920
		wantFrames(t, p, []int{k, 1990}, nil, []int{k, 1990})
		wantPage(t, p, k, aMap(2000, k, x.nos[:x.freed]))
		wantNoBlob(t, s, x.nos[0], api.ErrBusy) // nor is there one for a page
		wantFrames(t, p, []int{k, 1990}, nil, []int{k, 1990})
		p.Drop()
		wantBlob(t, s, x.nos, some(700))
		wantLeft(t, s)
	}
}

// What is freed is given again, the least first, whatever the chain's order was.
func TestFreeAndPut(t *testing.T) {
	nos, b := []int{9, 4, 20}, some(600)
	d := laidBlob(t, nos, b)
	p := over(t, d, 60, 30)
	s := open(t, p)
	wantNoPut(t, s, nil, api.ErrFull)
	wantFree(t, s, 9, api.OK)
	wantPut(t, s, b[:500], 4)
	wantBlob(t, s, []int{4, 9, 20}, b[:500])
	wantNoPut(t, s, nil, api.ErrFull)
	wantFree(t, s, 4, api.OK)
	wantPut(t, s, b[:3], 4)
	wantPut(t, s, b[:235], 9)
	wantLeft(t, s)
	wantFree(t, s, 20, api.ErrForm) // a later page
	wantFree(t, s, 9, api.OK)
	wantLeft(t, s, 9, 20)
	wantBlob(t, s, []int{4}, b[:3])
	p.Drop()
	wantLeft(t, s)
	wantBlob(t, s, nos, b)
}
