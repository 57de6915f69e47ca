package kv_test

import (
	"maps"
	"slices"
	"strconv"
	"strings"
	"testing"

	"tabulary/api"
	"tabulary/disk"
	"tabulary/kv"
)

// P16.12

// player is a store, what it is to have, and a twin with as many pages that wants for nothing else: its log is emptied behind each Commit, so that its frames tell how many pages a transaction changed.
type player struct {
	shape     kv.Shape
	disk      *disk.Disk
	store     *kv.Store
	twin      *kv.Store
	committed map[string]string
	all       map[string]string // what the transaction has made of it
	running   bool
	told      map[string]int // how often each thing was told
}

const twinFrames = 256

func newPlayer(t *testing.T, g kv.Shape) *player {
	t.Helper()
	s, d := format(t, g)
	twin, _ := format(t, kv.Shape{Log: 1000, Pages: g.Pages, Frames: twinFrames})
	return &player{shape: g, disk: d, store: s, twin: twin, committed: map[string]string{}, all: map[string]string{}, told: map[string]int{}}
}

// ended notes that the transaction has ended, and nothing of it was done.
func (p *player) ended(t *testing.T) {
	t.Helper()
	p.running, p.all = false, maps.Clone(p.committed)
	if p.twin.Running() {
		want(t, "Abort", p.twin.Abort(), api.OK)
	}
}

// key is one of n, of any length.
func (d *dice) key(n int) string {
	i := d.below(n)
	k := strconv.Itoa(100 + i)
	switch i % 3 {
	case 0:
		return k
	case 1:
		return long(k)
	}
	return k[:1+i%3] + strings.Repeat("x", i*13%38)
}

// body is one of any length, short ones mostly.
func (d *dice) body() string {
	return some([]int{d.below(20), d.below(49), 48, d.below(60), d.below(300), d.below(4001)}[d.below(40)%6*d.below(2)])
}

// play makes a call.
func (p *player) play(t *testing.T, d *dice, keys int) {
	t.Helper()
	switch d.below(40) {
	case 0, 1, 2:
		p.begin(t)
	case 3, 4, 5, 6, 7, 8, 9, 10, 11, 12, 13, 14:
		p.put(t, d.key(keys), d.body())
	case 15, 16, 17, 18, 19, 20, 21:
		p.delete(t, d.key(keys))
	case 22, 23, 24:
		p.get(t, d.key(keys))
	case 25, 26:
		p.scan(t, d.key(keys)[d.below(2):], d.key(keys)[d.below(2):], d.below(9))
	case 27, 28, 29:
		p.commit(t)
	case 30:
		p.abort(t)
	case 31, 32:
		p.checkpoint(t)
	case 33:
		p.reopen(t, d)
	case 34:
		p.check(t)
	case 35:
		p.wrong(t, d)
	default:
		p.begin(t)
	}
	if _, _, frames := p.store.Room(); frames == 0 { // what is to be read may have none
		p.get(t, d.key(keys))
		p.scan(t, "", "", 999)
		p.check(t)
	}
	p.wantRoom(t)
	wantRunning(t, p.store, p.running)
}

func (p *player) begin(t *testing.T) {
	t.Helper()
	if p.running {
		want(t, "Begin", p.store.Begin(), api.ErrState)
		return
	}
	want(t, "Begin", p.store.Begin(), api.OK)
	want(t, "Begin", p.twin.Begin(), api.OK)
	p.running = true
}

// changed holds what a Put or a Delete told against what the twin tells; it tells whether that was done.
func (p *player) changed(t *testing.T, e, twin api.Errno, ahead room) bool {
	t.Helper()
	switch {
	case e == api.ErrFull && (twin == api.ErrFull || ahead.pages < 40 || ahead.frames < 40):
		p.told["full"]++
		p.ended(t)
		return false
	case e != api.OK || twin != api.OK:
		t.Fatalf("error %d, and of the twin %d; %v", e, twin, ahead)
	}
	return true
}

func (p *player) put(t *testing.T, key, body string) {
	t.Helper()
	ahead := roomOf(p.store)
	e := p.store.Put(key, []byte(body))
	if !p.running {
		want(t, "Put", e, api.ErrState)
		return
	}
	if p.changed(t, e, p.twin.Put(key, []byte(body)), ahead) {
		p.told["put"]++
		p.all[key] = body
	}
}

func (p *player) delete(t *testing.T, key string) {
	t.Helper()
	ahead := roomOf(p.store)
	e := p.store.Delete(key)
	_, ok := p.all[key]
	switch {
	case !p.running:
		want(t, "Delete", e, api.ErrState)
	case !ok && e == api.ErrFull && ahead.frames < 40: // there was no frame to look for it
		p.ended(t)
	case !ok:
		want(t, "Delete", e, api.ErrNone)
	case p.changed(t, e, p.twin.Delete(key), ahead):
		p.told["delete"]++
		delete(p.all, key)
	}
}

func (p *player) get(t *testing.T, key string) {
	t.Helper()
	if _, e := p.store.Get(key); e == api.ErrBusy && roomOf(p.store).frames < 20 {
		p.told["busy"]++
		return
	}
	if b, ok := p.all[key]; ok {
		wantGet(t, p.store, key, b)
		return
	}
	wantNoGet(t, p.store, key, api.ErrNone)
}

func (p *player) scan(t *testing.T, from, to string, most int) {
	t.Helper()
	if l, e := p.store.Scan(from, to, most); e == api.ErrBusy && len(l) == 0 && roomOf(p.store).frames < 20 {
		p.told["busy"]++
		return
	}
	wantScan(t, p.store, from, to, most, p.all)
}

func (p *player) check(t *testing.T) {
	t.Helper()
	n, e := p.store.Check()
	if e == api.ErrBusy && n == 0 && roomOf(p.store).frames < 20 {
		p.told["busy"]++
		return
	}
	if e != api.OK || n != len(p.all) {
		t.Fatalf("Check: %d, error %d, not %d", n, e, len(p.all))
	}
}

func (p *player) commit(t *testing.T) {
	t.Helper()
	ahead, changed, steps := roomOf(p.store), twinFrames-roomOf(p.twin).frames, p.disk.Steps()
	e := p.store.Commit()
	need, least := api.OK, 0
	switch {
	case !p.running:
		need = api.ErrState
	case changed == 0:
	case ahead.frames < 2:
		need = api.ErrFull
	case sectorsOf(changed) > ahead.sectors:
		need = api.ErrLogFull
	default:
		least = sectorsOf(changed) + 1
	}
	want(t, "Commit", e, need)
	if p.disk.Steps() != steps+least {
		t.Fatalf("Commit: %d steps, not %d", p.disk.Steps()-steps, least)
	}
	p.told["commit "+strconv.Itoa(int(e))]++
	switch {
	case need == api.OK:
		want(t, "Commit", p.twin.Commit(), api.OK)
		want(t, "Checkpoint", p.twin.Checkpoint(), api.OK)
		p.committed, p.running = maps.Clone(p.all), false
		if r := roomOf(p.store); r.sectors != ahead.sectors-max(least-1, 0) || r.frames != ahead.frames {
			t.Fatalf("Room: %v; it was %v", r, ahead)
		}
	case p.running:
		p.ended(t)
	}
}

func (p *player) abort(t *testing.T) {
	t.Helper()
	e := p.store.Abort()
	if !p.running {
		want(t, "Abort", e, api.ErrState)
		return
	}
	want(t, "Abort", e, api.OK)
	p.ended(t)
}

func (p *player) checkpoint(t *testing.T) {
	t.Helper()
	e := p.store.Checkpoint()
	if p.running {
		want(t, "Checkpoint", e, api.ErrState)
		return
	}
	want(t, "Checkpoint", e, api.OK)
	if r := roomOf(p.store); r.sectors != p.shape.Log || r.frames != p.shape.Frames {
		t.Fatalf("Room: %v", r)
	}
}

// reopen loses what was not committed, and opens the store with as many frames, or others.
func (p *player) reopen(t *testing.T, d *dice) {
	t.Helper()
	frames := []int{p.shape.Frames, 8 + d.below(30), 256}[d.below(3)]
	x := lost(t, p.disk)
	s, e := kv.Open(x, frames)
	if e == api.ErrBusy && frames < p.shape.Frames {
		p.told["too few frames"]++
		return
	}
	want(t, "Open", e, api.OK)
	p.told["opened"]++
	p.disk, p.store, p.shape.Frames = x, s, frames
	p.ended(t)
	if r := roomOf(p.store); r.sectors != p.shape.Log || r.frames != frames {
		t.Fatalf("Room: %v", r)
	}
}

// wrong makes a call that is refused, and changes nothing.
func (p *player) wrong(t *testing.T, d *dice) {
	t.Helper()
	need := func(e api.Errno) api.Errno {
		if !p.running {
			return api.ErrState
		}
		return e
	}
	switch d.below(5) {
	case 0:
		wantPut(t, p.store, "", some(4001), need(api.ErrInvalid))
	case 1:
		wantPut(t, p.store, long("k"), some(4001), need(api.ErrBig))
	case 2:
		want(t, "Delete", p.store.Delete(long("k")+"k"), need(api.ErrInvalid))
	case 3:
		wantNoGet(t, p.store, "", api.ErrInvalid)
	case 4:
		wantNoScan(t, p.store, "", "", -1, api.ErrInvalid)
	}
}

// wantRoom holds how many pages are left against the twin, which has taken the same.
func (p *player) wantRoom(t *testing.T) {
	t.Helper()
	r, twin := roomOf(p.store), roomOf(p.twin)
	if r.pages != twin.pages {
		t.Fatalf("%d pages are left, and of the twin %d", r.pages, twin.pages)
	}
}

func TestCallsByAMap(t *testing.T) {
	t.Parallel()
	told := map[string]int{}
	shapes := []kv.Shape{{30, 60, 8}, {60, 60, 16}, {60, 100, 12}, {200, 100, 40}, {60, 200, 64}, {400, 200, 100}, {2, 40, 8}, {500, 25, 60}, {40, 1950, 10}}
	for i, g := range shapes {
		for _, keys := range []int{6, 25, 90} {
			d := dice(i*7 + keys)
			p := newPlayer(t, g)
			for range 2500 {
				p.play(t, &d, keys)
			}
			if p.running {
				p.abort(t)
			}
			wantMap(t, p.store, p.committed)
			wantMap(t, open(t, lost(t, p.disk), p.shape.Frames), p.committed)
			p.empty(t)
			for k, n := range p.told {
				told[k] += n
			}
		}
	}
	for _, k := range []string{"put", "delete", "full", "busy", "commit 0", "commit 30", "commit 31", "commit 42", "opened", "too few frames"} {
		if told[k] < 10 {
			t.Errorf("%s is told %d times: too few to tell", k, told[k])
		}
	}
}

// empty deletes all keys, one transaction a key; behind them a store has the pages that it had at first.
func (p *player) empty(t *testing.T) {
	t.Helper()
	p.store = open(t, p.disk, 256)
	for _, k := range slices.Sorted(maps.Keys(p.committed)) {
		want(t, "Begin", p.store.Begin(), api.OK)
		want(t, "Delete", p.store.Delete(k), api.OK)
		e := p.store.Commit()
		if e == api.ErrLogFull || e == api.ErrFull {
			want(t, "Checkpoint", p.store.Checkpoint(), api.OK)
			want(t, "Begin", p.store.Begin(), api.OK)
			want(t, "Delete", p.store.Delete(k), api.OK)
			e = p.store.Commit()
		}
		if e == api.ErrLogFull && p.shape.Log < 20 { // a log that is too short for it
			return
		}
		want(t, "Commit", e, api.OK)
	}
	wantMap(t, p.store, nil)
	wantPages(t, p.store, p.shape.Pages-(p.shape.Pages+1919)/1920-1)
}
