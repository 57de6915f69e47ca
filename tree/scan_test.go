package tree_test

import (
	"maps"
	"math"
	"slices"
	"strconv"
	"strings"
	"testing"

	"tabulary/api"
	"tabulary/tree"
)

// P15.3

// bounds are texts from which a Scan may begin, or at which it may end: the keys, what lies just ahead of them and behind them, and what is no key.
func bounds(keys []string) []string {
	l := []string{"", "\x00", "\xff", strings.Repeat("\xff", 300), strings.Repeat("\x00", 41)}
	for _, k := range keys {
		l = append(l, k, k+"\x00", k[:len(k)-1], k[:len(k)-1]+string([]byte{k[len(k)-1] - 1, 255}))
	}
	return l
}

func TestScanOfEachStretch(t *testing.T) {
	for _, n := range []int{0, 1, 2, 7, 24} {
		for _, all := range kinds(n) {
			_, s := bare(t, 400, 200)
			x := grow(t, s, all)
			ask := still(t, s)
			l := bounds(slices.Collect(maps.Keys(all)))
			for _, from := range l {
				for _, to := range l { // also at, or ahead of, from
					wantScan(t, x, from, to, n+1, all)
				}
			}
			ask()
		}
	}
}

func TestScanOfMost(t *testing.T) {
	for _, all := range kinds(40) {
		_, s := bare(t, 400, 200)
		x := grow(t, s, all)
		for _, most := range []int{0, 1, 2, 3, 20, 39, 40, 41, 1 << 20, math.MaxInt32, math.MaxInt} {
			for _, from := range []string{"", "10", "10007", "10007\x00", "2"} {
				for _, to := range []string{"", "10020", "10039", "3", "0"} {
					wantScan(t, x, from, to, most, all)
				}
			}
		}
		for _, most := range []int{-1, -2, math.MinInt32, math.MinInt} {
			wantNoScan(t, x, "", "", most, api.ErrInvalid)
			wantNoScan(t, x, "b", "a", most, api.ErrInvalid)
		}
	}
}

// A Scan reads no more than it needs: what lies behind the last pair that it tells is not asked for.
func TestScanStopsAtMost(t *testing.T) {
	all := map[string]string{}
	for i := range 40 {
		all[long(strconv.Itoa(100+i))] = some(48)
	}
	d, s := bare(t, 200, 200)
	x := grow(t, s, all)
	settle(t, s.Pool())
	l := look(t, s, x.Root())
	_, pages := s.Pool().Count(), l.pages
	// The last leaf is spoilt.
	last := 0
	for _, no := range pages {
		if b := page(t, s, no); b[4] == 5 && strings.Contains(string(b), long("139")) {
			last = no
		}
	}
	b, _ := d.Read(d.Size() - 200 + last)
	d.Spoil(d.Size()-200+last, 99, b[99]+1)
	o := tree.At(open(t, over(t, d, 200, 9)), x.Root())
	first := 40 - strings.Count(string(b), "~")/35 // roughly: how many keys lie ahead of that leaf
	for most := range first - 1 {
		wantScan(t, o, "", "", most, all)
	}
	wantNoScan(t, o, "", "", 41, api.ErrSum)
	wantNoScan(t, o, long("139"), "", 1, api.ErrSum)
	wantScan(t, o, "", long("120"), 41, all)
	// With the power off, what is not held is not got.
	o = tree.At(open(t, over(t, d, 200, 9)), x.Root())
	d.Cut(0)
	wantNoScan(t, o, "", "", 1, api.ErrDown)
	wantScan(t, x, "", "", 41, all) // all is held there
}

// A Scan of no pair, or of a stretch in which no key may be, reads nothing.
func TestScanOfNothing(t *testing.T) {
	all := map[string]string{"a": "x", "b": "y"}
	d, s := bare(t, 9, 9)
	x := grow(t, s, all)
	settle(t, s.Pool())
	o := reopened(t, d, 9, 9, x.Root())
	d.Cut(0)
	wantNoScan(t, o, "", "", 1, api.ErrDown)
	wantScan(t, o, "", "", 0, all)
	for _, l := range [][2]string{{"b", "a"}, {"a", "a"}, {"\xff", "\x00"}} {
		wantScan(t, o, l[0], l[1], 9, all)
	}
}

// A body that may not be read is refused where its pair is told, and there alone.
func TestScanOfBodies(t *testing.T) {
	all := map[string]string{"a": "x", "b": some(600), "c": "y", "d": some(70)}
	_, s := bare(t, 40, 40)
	x := grow(t, s, all)
	wantScan(t, x, "", "", 9, all)
	blob := number(strings.Split(string(page(t, s, x.Root())), "\x01b\x05\x01")[1])
	plant(t, s, map[int][]byte{blob: plain(blob)})
	wantNoScan(t, x, "", "", 9, api.ErrForm)
	wantNoScan(t, x, "b", "", 1, api.ErrForm)
	wantNoScan(t, x, "a", "c", 2, api.ErrForm)
	wantScan(t, x, "", "", 1, all)
	wantScan(t, x, "", "b", 9, all)
	wantScan(t, x, "c", "", 9, all)
	wantScan(t, x, "b\x00", "", 9, all)
}

// One frame is enough to read a tree.
func TestReadsWithOneFrame(t *testing.T) {
	for _, all := range kinds(50) {
		d, s := bare(t, 500, 250)
		x := grow(t, s, all)
		settle(t, s.Pool())
		p := over(t, d, 500, 1)
		o, e := tree.Open(open(t, p), x.Root())
		if e != api.OK {
			t.Fatalf("Open: error %d", e)
		}
		wantScan(t, o, "", "", 99, all)
		for k, b := range all {
			wantGet(t, o, k, b)
			wantNoGet(t, o, k[:4]+"\x00", api.ErrNone)
		}
		if keys, pages, e := o.Check(); e != api.OK || keys != 50 || !slices.Equal(pages, taken(t, s)) {
			t.Fatalf("Check: %d, %v, error %d", keys, pages, e)
		}
		if len(p.Fresh())+len(p.Dirty()) > 0 {
			t.Fatalf("%v are fresh, %v dirty", p.Fresh(), p.Dirty())
		}
		// Without a frame nothing is read.
		p.Put(499, plain(499))
		wantNoScan(t, o, "", "", 99, api.ErrBusy)
		wantNoGet(t, o, "10001", api.ErrBusy)
		wantPut(t, o, "10001", "x", api.ErrBusy)
		wantDelete(t, o, "10001", api.ErrBusy)
		wantNoCheck(t, o, api.ErrBusy)
		p.Drop()
		wantScan(t, o, "", "", 99, all)
	}
}

// What is told is memory of its own, spare room too.
func TestWhatIsTold(t *testing.T) {
	all := map[string]string{"a": "x", "b": some(48), "c": some(49), "d": some(600), "e": ""}
	_, s := bare(t, 40, 40)
	x := grow(t, s, all)
	spoil := func(b []byte) {
		b = b[:cap(b)]
		for i := range b {
			b[i] = 99
		}
	}
	for range 2 {
		for k := range all {
			b, _ := x.Get(k)
			spoil(b)
		}
		wantTree(t, x, s, all)
		l, _ := x.Scan("", "", 9)
		m, _ := x.Scan("", "", 9)
		for i := range l {
			spoil(l[i].Body)
			for j := range l {
				if j > i && string(l[j].Body) != all[l[j].Key] || string(m[j].Body) != all[m[j].Key] {
					t.Fatalf("the body of %q is changed with that of %q", l[j].Key, l[i].Key)
				}
			}
		}
		l = l[:cap(l)]
		clear(l)
		wantTree(t, x, s, all)
		_, pages, _ := x.Check()
		pages = pages[:cap(pages)]
		for i := range pages {
			pages[i] = -7
		}
		wantTree(t, x, s, all)
	}
}

// What is handed in stays as it is, its spare room too, and is not kept.
func TestPutLeavesItsBody(t *testing.T) {
	for _, n := range sizes() {
		for _, spare := range []int{0, 1, 60, 5000} {
			_, s := bare(t, 40, 40)
			x := begin(t, s)
			whole := []byte(some(n) + strings.Repeat("s", spare))
			was := slices.Clone(whole)
			if e := x.Put("a", whole[:n]); e != api.OK || !slices.Equal(whole, was) {
				t.Fatalf("Put of %d bytes: error %d, or what was handed in is changed", n, e)
			}
			for i := range whole {
				whole[i] = 88
			}
			wantTree(t, x, s, map[string]string{"a": some(n)})
			was = slices.Clone(whole)
			wantPut(t, x, "b", some(40), api.OK)
			wantDelete(t, x, "a", api.OK)
			if !slices.Equal(whole, was) {
				t.Fatal("what was handed in is changed afterwards")
			}
		}
	}
}
