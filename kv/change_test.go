package kv_test

import (
	"maps"
	"slices"
	"strings"
	"testing"

	"tabulary/api"
	"tabulary/disk"
	"tabulary/kv"
)

// P16.5

// state is all that a store tells.
type state struct {
	all     map[string]string
	room    room
	running bool
}

func stateOf(t *testing.T, s *kv.Store) state {
	t.Helper()
	all := map[string]string{}
	l, e := s.Scan("", "", 9999)
	want(t, "Scan", e, api.OK)
	for _, p := range l {
		all[p.Key] = string(p.Body)
	}
	wantMap(t, s, all)
	return state{all, roomOf(s), s.Running()}
}

// wantState asks that a store tells what it told.
func wantState(t *testing.T, s *kv.Store, need state) {
	t.Helper()
	now := stateOf(t, s)
	if now.room != need.room || now.running != need.running || !maps.Equal(now.all, need.all) {
		t.Fatalf("%d pairs, %v, running %v; not %d, %v, %v; or others", len(now.all), now.room, now.running, len(need.all), need.room, need.running)
	}
}

// wantEnded asks that a transaction has ended, and nothing of it was done: a store tells what it told ahead of it, and goes on.
func wantEnded(t *testing.T, s *kv.Store, need state) {
	t.Helper()
	need.running = false
	wantState(t, s, need)
	want(t, "Commit", s.Commit(), api.ErrState)
	want(t, "Abort", s.Abort(), api.ErrState)
	want(t, "Begin", s.Begin(), api.OK)
	want(t, "Abort", s.Abort(), api.OK)
	wantState(t, s, need)
}

// Only a transaction may change anything; that none runs is told ahead of what else is wrong.
func TestWithoutATransaction(t *testing.T) {
	s, d := format(t, kv.Shape{Log: 60, Pages: 60, Frames: 40})
	commit(t, s, "a", "x")
	steps, before := d.Steps(), stateOf(t, s)
	for _, key := range []string{"a", "b", "", long("b") + "x", strings.Repeat("x", 999)} {
		for _, size := range []int{0, 1, 4000, 4001} {
			wantPut(t, s, key, some(size), api.ErrState)
		}
		want(t, "Delete", s.Delete(key), api.ErrState)
	}
	want(t, "Commit", s.Commit(), api.ErrState)
	want(t, "Abort", s.Abort(), api.ErrState)
	wantState(t, s, before)
	if d.Steps() != steps {
		t.Fatal("what is refused writes")
	}
}

// What is wrong with a key or a body changes nothing, and the transaction goes on.
func TestWrongKeysAndBodies(t *testing.T) {
	s, _ := format(t, kv.Shape{Log: 60, Pages: 60, Frames: 40})
	commit(t, s, "a", "x", "c", some(500))
	want(t, "Begin", s.Begin(), api.OK)
	put(t, s, "b", "y")
	want(t, "Delete", s.Delete("c"), api.OK)
	before := stateOf(t, s)
	for _, key := range []string{"", long("b") + "x", strings.Repeat("x", 41), strings.Repeat("x", 4000)} {
		for _, size := range []int{0, 4000, 4001} { // ahead of ErrBig
			wantPut(t, s, key, some(size), api.ErrInvalid)
		}
		want(t, "Delete", s.Delete(key), api.ErrInvalid)
		wantState(t, s, before)
	}
	for _, key := range []string{"a", "b", "c", long("d")} {
		wantPut(t, s, key, some(4001), api.ErrBig)
		wantPut(t, s, key, some(9999), api.ErrBig)
		wantState(t, s, before)
	}
	for _, key := range []string{"c", "bb", "zz", "\x00", long("a")} {
		want(t, "Delete", s.Delete(key), api.ErrNone)
		wantState(t, s, before)
	}
	put(t, s, long("d"), some(4000))
	want(t, "Delete", s.Delete("a"), api.OK)
	want(t, "Delete", s.Delete("a"), api.ErrNone)
	want(t, "Commit", s.Commit(), api.OK)
	wantMap(t, s, mapOf("b", "y", long("d"), some(4000)))
}

// No page is free: the transaction ends, and nothing of it was done.
func TestPutWithoutAPage(t *testing.T) {
	for _, left := range []int{0, 1, 2, 5} {
		s, d := format(t, kv.Shape{Log: 200, Pages: 40, Frames: 60})
		commit(t, s, "a", blobOf(16), "b", blobOf(10), "c", blobOf(2), "z", blobOf(10-left))
		wantRoom(t, s, room{left, logLeft(t, d, 200), 60 - 40 + left})
		before := stateOf(t, s)
		for _, more := range []int{0, 1, 3} { // pages that a Put wants beyond those that are free
			want(t, "Begin", s.Begin(), api.OK)
			want(t, "Delete", s.Delete("c"), api.OK)
			put(t, s, "a", blobOf(1), "d", "short") // 17 pages more are left
			wantPages(t, s, left+17)
			put(t, s, "b", blobOf(12), "b", blobOf(10)) // what it had is free for what it gets
			put(t, s, "e", blobOf(9))
			wantPages(t, s, left+8)
			wantPut(t, s, "f", blobOf(left+8+more), map[bool]api.Errno{false: api.OK, true: api.ErrFull}[more > 0])
			if more == 0 {
				wantRoom(t, s, room{0, before.room.sectors, 20})
				put(t, s, "b", blobOf(10), "g", "short")
				want(t, "Delete", s.Delete("no"), api.ErrNone)
				wantPut(t, s, "h", blobOf(1), api.ErrFull)
			}
			wantEnded(t, s, before)
		}
		wantMap(t, open(t, lost(t, d), 60), before.all)
		if left > 0 { // and the store goes on
			commit(t, s, "a", blobOf(16-left), "f", blobOf(2*left))
			wantPages(t, s, 0)
		}
	}
}

// wantPages asks how many pages are not taken.
func wantPages(t *testing.T, s *kv.Store, need int) {
	t.Helper()
	if n, _, _ := s.Room(); n != need {
		t.Fatalf("%d pages are left, not %d", n, need)
	}
}

// logLeft is how many sectors of the log are left behind its first group.
func logLeft(t *testing.T, d *disk.Disk, log int) int {
	t.Helper()
	n := 0
	for n < log && !slices.Equal(image(t, d)[2+n], make([]byte, 256)) {
		n++
	}
	return log - n
}

// No frame is free: likewise. A Delete that has none to read by is told the same.
func TestPutWithoutAFrame(t *testing.T) {
	for frames := 8; frames <= 40; frames += 4 {
		g := kv.Shape{Log: 200, Pages: 200, Frames: 60}
		s, d := format(t, g)
		commit(t, s, "a", blobOf(3), "b", "y")
		o := open(t, d, frames)
		before := stateOf(t, o)
		begin := func() {
			t.Helper()
			want(t, "Begin", o.Begin(), api.OK)
			left := frames - 2 // but the map and the leaf
			for _, k := range []string{"p", "q", "r"} {
				n := min(left, 15)
				if n > 0 {
					put(t, o, k, blobOf(n))
				}
				left -= n
			}
			wantRoom(t, o, room{before.room.pages - (frames - 2), 200, 0})
			put(t, o, "b", "z") // the leaf is there
		}
		begin()
		wantPut(t, o, "c", blobOf(1), api.ErrFull)
		wantEnded(t, o, before)
		begin()
		wantPut(t, o, "a", "short", api.ErrFull) // what it had is to be read
		wantEnded(t, o, before)
		begin()
		want(t, "Delete", o.Delete("a"), api.ErrFull)
		wantEnded(t, o, before)
		begin()
		want(t, "Delete", o.Delete("b"), api.OK)
		want(t, "Delete", o.Delete("p"), api.OK)
		want(t, "Abort", o.Abort(), api.OK)
		wantEnded(t, o, before)
	}
}

// What the tree refuses otherwise ends the transaction, too; the store is not down.
func TestPutThatIsRefusedOtherwise(t *testing.T) {
	body := blobOf(3)
	refused := func(d *disk.Disk, spoil func(d *disk.Disk), keys []string, need api.Errno) {
		t.Helper()
		for _, key := range keys {
			for _, delete := range []bool{false, true} {
				x := lost(t, d)
				s := open(t, x, 8)
				before := stateOf(t, s)
				want(t, "Begin", s.Begin(), api.OK)
				put(t, s, "b", "changed", "c", blobOf(3), "d", blobOf(3)) // all frames are in use
				want(t, "Abort", s.Abort(), api.OK)                       // and the blob's pages are given up
				want(t, "Begin", s.Begin(), api.OK)
				put(t, s, "b", "changed", "c", "new")
				spoil(x)
				wantRunning(t, s, true)
				if delete {
					want(t, "Delete", s.Delete(key), need)
				} else {
					wantPut(t, s, key, "other", need)
				}
				wantRunning(t, s, false)
				want(t, "Commit", s.Commit(), api.ErrState)
				want(t, "Begin", s.Begin(), api.OK)
				want(t, "Abort", s.Abort(), api.OK)
				if need == api.ErrDown { // the frames that are left have what was committed
					wantRoom(t, s, before.room)
					continue
				}
				wantGet(t, s, "b", "y")
				wantNoGet(t, s, "c", api.ErrNone)
				wantNoGet(t, s, key, need)
				wantRoom(t, s, before.room)
				want(t, "Begin", s.Begin(), api.OK)
				put(t, s, "b", "z")
				want(t, "Commit", s.Commit(), api.OK)
			}
		}
	}
	s, d := format(t, kv.Shape{Log: 60, Pages: 60, Frames: 16})
	commit(t, s, "a", body, "b", "y")
	want(t, "Checkpoint", s.Checkpoint(), api.OK)
	// The blob's pages are 2 to 4.
	at := 2 + 60
	refused(d, func(d *disk.Disk) { d.Spoil(at+2, 50, byteAt(t, d, at+2, 50)+1) }, []string{"a"}, api.ErrSum)
	refused(d, func(d *disk.Disk) { d.Cut(0) }, []string{"a"}, api.ErrDown)
	refused(d, func(d *disk.Disk) {
		for i, b := range aPage(3, 1, "no blob") {
			d.Spoil(at+3, i, b)
		}
	}, []string{"a"}, api.ErrForm)
}

// byteAt is a byte of a sector.
func byteAt(t *testing.T, d *disk.Disk, i, at int) byte {
	t.Helper()
	return image(t, d)[i][at]
}

// P16.6

func TestAbort(t *testing.T) {
	s, d := format(t, kv.Shape{Log: 200, Pages: 100, Frames: 60})
	commit(t, s, "a", "x", "b", some(900), "c", "")
	for _, checkpoint := range []bool{false, true} {
		if checkpoint {
			want(t, "Checkpoint", s.Checkpoint(), api.OK)
		}
		before, steps := stateOf(t, s), d.Steps()
		for n := range 30 { // of any number of changes
			want(t, "Begin", s.Begin(), api.OK)
			for i := range n {
				key := long(strings.Repeat("k", i%39))[:i+1]
				switch i % 3 {
				case 0:
					put(t, s, key, some(i*20))
				case 1:
					put(t, s, "b", some(i))
				case 2:
					if e := s.Delete("a"); e != api.OK && e != api.ErrNone {
						t.Fatalf("Delete: error %d", e)
					}
				}
			}
			want(t, "Abort", s.Abort(), api.OK)
			wantState(t, s, before)
		}
		want(t, "Abort", s.Abort(), api.ErrState)
		if d.Steps() != steps {
			t.Fatal("Abort writes")
		}
	}
	wantMap(t, open(t, lost(t, d), 60), mapOf("a", "x", "b", some(900), "c", ""))
}

// A transaction that changed no page is committed without a step, also where no other one could be: the log is full, and so are the frames.
func TestCommitOfNothing(t *testing.T) {
	s, d := format(t, kv.Shape{Log: 9, Pages: 60, Frames: 8})
	commit(t, s, "a", blobOf(4)) // the map, the leaf, four pages: all frames but two
	wantRoom(t, s, room{60 - 6, 9 - sectorsOf(6), 2})
	steps, before := d.Steps(), stateOf(t, s)
	for range 3 {
		want(t, "Begin", s.Begin(), api.OK)
		want(t, "Delete", s.Delete("b"), api.ErrNone)
		wantPut(t, s, "", "", api.ErrInvalid)
		wantGet(t, s, "a", blobOf(4))
		want(t, "Commit", s.Commit(), api.OK)
		wantRunning(t, s, false)
		want(t, "Commit", s.Commit(), api.ErrState)
	}
	if d.Steps() != steps {
		t.Fatal("a Commit of nothing writes")
	}
	wantState(t, s, before)
}

// A group of the pages that were changed, rising, and of the root; nothing else is written.
func TestWhatCommitWrites(t *testing.T) {
	s, d := format(t, kv.Shape{Log: 60, Pages: 60, Frames: 30})
	commit(t, s, "b", "y")
	need := map[int][]byte{0: aMaster(1, 60, 60, 1), 62: aMap(0, 60, 0, 1), 63: aLeaf(1)}
	at := 0
	group := func(records ...[]byte) {
		for _, b := range aGroup(2, at, records...) {
			need[2+at] = b
			at++
		}
	}
	root := []byte(four(1))
	group(aLeaf(1, "b", "y"), root)
	wantDisk(t, d, need)
	// Pages of a blob, and the leaf that tells it, and the map; from the least one on, whatever was put first.
	body := some(300)
	steps := d.Steps()
	commit(t, s, "a", body)
	val := string([]byte{1, 0, 0, 0, 2})
	group(aMap(0, 60, 0, 1, 2, 3), aPage(1, 5, "\x01a\x05"+val, "\x01b\x02\x00y"), aPage(2, 4, four(3)+four(300)+body[:234]), aPage(3, 4, four(0)+body[234:]), root)
	wantDisk(t, d, need)
	if d.Steps() != steps+sectorsOf(4)+1 || len(d.Pending()) != 0 {
		t.Fatalf("%d steps", d.Steps()-steps)
	}
	wantRoom(t, s, room{56, 60 - at, 30 - 4})
	// A page that was put and given back in one transaction is one that was changed.
	want(t, "Begin", s.Begin(), api.OK)
	put(t, s, "c", blobOf(1))
	want(t, "Delete", s.Delete("c"), api.OK)
	wantRoom(t, s, room{56, 60 - at, 30 - 5})
	want(t, "Commit", s.Commit(), api.OK)
	group(aMap(0, 60, 0, 1, 2, 3), aPage(1, 5, "\x01a\x05"+val, "\x01b\x02\x00y"), aPage(4, 4, four(0)+four(234)+blobOf(1)), root)
	wantDisk(t, d, need)
	wantRoom(t, s, room{56, 60 - at, 30 - 5})
	wantMap(t, s, mapOf("a", body, "b", "y"))
	// Another root.
	want(t, "Begin", s.Begin(), api.OK)
	put(t, s, long("c"), some(48), long("d"), some(48), long("e"), some(48))
	want(t, "Commit", s.Commit(), api.OK)
	l := image(t, d)
	last := l[2+at:]
	n := 0
	for n < len(last) && !slices.Equal(last[n], make([]byte, 256)) && n < 60-at {
		n++
	}
	end := last[n-1]
	if got := string(end[10+int(end[9])-4 : 10+int(end[9])]); got == four(1) {
		t.Fatal("the root of the log is the old one")
	}
	wantMap(t, open(t, lost(t, d), 30), mapOf("a", body, "b", "y", long("c"), some(48), long("d"), some(48), long("e"), some(48)))
}

// Pages that a transaction changed, and dirty ones, as many together as the frames but two, and one more, and two.
func TestCommitOfManyPages(t *testing.T) {
	for _, frames := range []int{8, 9, 12, 20, 37} {
		for _, dirty := range []int{0, 1, 2, 4, 5} {
			for over := -1; over <= 2; over++ {
				s, d := format(t, kv.Shape{Log: 400, Pages: 200, Frames: frames})
				commit(t, s, "base", blobOf(2))
				want(t, "Checkpoint", s.Checkpoint(), api.OK)
				used := 2 // the map and the leaf will be
				switch {
				case dirty == 1:
					commit(t, s, "base2", "short") // the leaf alone
				case dirty > 1:
					commit(t, s, "base2", blobOf(dirty-1)) // the map, the leaf, and others
					used += dirty - 1
				}
				before := stateOf(t, s)
				want(t, "Begin", s.Begin(), api.OK)
				for n := frames - 2 + over - used; n > 0; n -= 15 {
					put(t, s, "k"+four(n)[3:], blobOf(min(n, 15)))
				}
				if frames-2+over-used <= 0 {
					want(t, "Abort", s.Abort(), api.OK)
					continue
				}
				wantRoom(t, s, room{before.room.pages - (frames - 2 + over - used), before.room.sectors, 2 - over})
				if over > 0 {
					steps := d.Steps()
					want(t, "Commit", s.Commit(), api.ErrFull)
					wantEnded(t, s, before)
					if d.Steps() != steps {
						t.Fatal("a Commit that is refused writes")
					}
					wantMap(t, open(t, lost(t, d), frames), before.all)
					continue
				}
				after := stateOf(t, s)
				want(t, "Commit", s.Commit(), api.OK)
				after.running, after.room.sectors = false, logLeft(t, d, 400)
				wantMap(t, s, after.all)
				wantMap(t, open(t, lost(t, d), frames), after.all) // with as many frames
				want(t, "Checkpoint", s.Checkpoint(), api.OK)
				wantRoom(t, s, room{after.room.pages, 400, frames})
			}
		}
	}
}

// A page that is dirty, and changed again, counts once.
func TestCommitOfDirtyPagesAgain(t *testing.T) {
	s, d := format(t, kv.Shape{Log: 400, Pages: 60, Frames: 8})
	all := map[string]string{}
	for i := range 20 {
		body := some(234*3 + i) // four pages, or three; each time others than before are taken at most
		if i > 0 {
			body = some(40 + i%9)
		}
		commit(t, s, "a", body)
		all["a"] = body
		wantMap(t, s, all)
		if r := roomOf(s); r.frames < 2 {
			t.Fatalf("Room: %v", r)
		}
	}
	wantMap(t, open(t, lost(t, d), 8), all)
}

// A log that has just room for a group, and one that is one sector short; without a group ahead of it, and behind others.
func TestCommitWithoutALog(t *testing.T) {
	for ahead := range 3 {
		for n := 1; n <= 30; n += 4 { // pages of the blob, beside the map and the leaf
			need := ahead*sectorsOf(1) + sectorsOf(n+2)
			for _, log := range []int{need - 1, need, need + 1} {
				s, d := format(t, kv.Shape{Log: log, Pages: 100, Frames: 60})
				all := map[string]string{}
				for i := range ahead {
					k := "a" + string(rune('0'+i))
					commit(t, s, k, "x")
					all[k] = "x"
				}
				before, steps := stateOf(t, s), d.Steps()
				wantRoom(t, s, room{98, log - ahead*sectorsOf(1), 60 - min(ahead, 1)})
				want(t, "Begin", s.Begin(), api.OK)
				for m := n; m > 0; m -= 15 {
					k, b := "k"+four(m)[3:], blobOf(min(m, 15))
					put(t, s, k, b)
					all[k] = b
				}
				if log < need {
					want(t, "Commit", s.Commit(), api.ErrLogFull)
					wantEnded(t, s, before)
					if d.Steps() != steps {
						t.Fatal("a Commit that is refused writes")
					}
					wantMap(t, open(t, lost(t, d), 60), before.all)
					// A shorter one has room, and the one behind a Checkpoint, too.
					if log-ahead*sectorsOf(1) >= sectorsOf(1) {
						commit(t, s, "short", "y")
						want(t, "Delete", s.Delete("short"), api.ErrState)
						before.all["short"] = "y"
						wantMap(t, open(t, lost(t, d), 60), before.all)
					}
					continue
				}
				want(t, "Commit", s.Commit(), api.OK)
				wantRoom(t, s, room{98 - n, log - need, 60 - n - 2})
				wantMap(t, s, all)
				wantMap(t, open(t, lost(t, d), 60), all)
			}
		}
	}
}

// ErrFull is told ahead of ErrLogFull.
func TestCommitWithoutFramesAndLog(t *testing.T) {
	s, _ := format(t, kv.Shape{Log: 2, Pages: 60, Frames: 8})
	before := stateOf(t, s)
	for n := 1; n <= 6; n++ {
		need := api.ErrLogFull
		if n+2 > 6 {
			need = api.ErrFull
		}
		want(t, "Begin", s.Begin(), api.OK)
		put(t, s, "a", blobOf(n))
		want(t, "Commit", s.Commit(), need)
		wantEnded(t, s, before)
	}
	commit(t, s, "a", "x") // a page alone has room
	wantMap(t, s, mapOf("a", "x"))
}

// wantDown asks that each call of a store that is down tells that, whatever else is wrong.
func wantDown(t *testing.T, s *kv.Store) {
	t.Helper()
	for range 2 {
		want(t, "Begin", s.Begin(), api.ErrDown)
		for _, key := range []string{"a", "no", "", strings.Repeat("x", 41)} {
			wantNoGet(t, s, key, api.ErrDown)
			for _, size := range []int{0, 4000, 4001} {
				wantPut(t, s, key, some(size), api.ErrDown)
			}
			want(t, "Delete", s.Delete(key), api.ErrDown)
			wantNoScan(t, s, key, "", 9, api.ErrDown)
			wantNoScan(t, s, key, "", -1, api.ErrDown)
		}
		want(t, "Commit", s.Commit(), api.ErrDown)
		want(t, "Abort", s.Abort(), api.ErrDown)
		want(t, "Checkpoint", s.Checkpoint(), api.ErrDown)
		wantNoCheck(t, s, api.ErrDown)
		wantRunning(t, s, false)
	}
}

// What the disk refuses, at each step of a Commit: the store is down, and what it has room for is what it was.
func TestCommitWithoutPower(t *testing.T) {
	for n := range sectorsOf(6) + 2 {
		s, d := format(t, kv.Shape{Log: 60, Pages: 60, Frames: 16})
		commit(t, s, "a", "x")
		before := roomOf(s)
		want(t, "Begin", s.Begin(), api.OK)
		put(t, s, "b", blobOf(4))
		d.Cut(n)
		steps := d.Steps()
		if n == sectorsOf(6)+1 { // just enough
			want(t, "Commit", s.Commit(), api.OK)
			wantGet(t, s, "b", blobOf(4))
			wantMap(t, open(t, lost(t, d), 16), mapOf("a", "x", "b", blobOf(4)))
			continue
		}
		want(t, "Commit", s.Commit(), api.ErrDown)
		if d.Steps() != steps+n {
			t.Fatalf("%d steps, not %d", d.Steps()-steps, n)
		}
		wantDown(t, s)
		wantRoom(t, s, before)
		wantMap(t, open(t, lost(t, d), 16), mapOf("a", "x"))
	}
}

// P16.7

func TestCheckpoint(t *testing.T) {
	s, d := format(t, kv.Shape{Log: 60, Pages: 60, Frames: 16})
	commit(t, s, "a", "x", "b", blobOf(3))
	want(t, "Begin", s.Begin(), api.OK)
	before := stateOf(t, s)
	want(t, "Checkpoint", s.Checkpoint(), api.ErrState)
	wantState(t, s, before)
	want(t, "Abort", s.Abort(), api.OK)
	all := before.all
	steps := d.Steps()
	want(t, "Checkpoint", s.Checkpoint(), api.OK)
	if d.Steps() != steps+5+1+2 { // five dirty pages and a Sync, the master and a Sync
		t.Fatalf("%d steps", d.Steps()-steps)
	}
	wantRoom(t, s, room{60 - 5, 60, 16})
	wantMap(t, s, all)
	l := image(t, d)
	if !slices.Equal(l[1], aMaster(2, 60, 60, 1)) || !slices.Equal(l[62], aMap(0, 60, 0, 1, 2, 3, 4)) {
		t.Fatal("the master or the map is another one")
	}
	// Without a dirty page the master is saved, and the log begins anew, all the same.
	for i := range 4 {
		want(t, "Checkpoint", s.Checkpoint(), api.OK)
		if d.Steps() != steps+8+2*i+2 {
			t.Fatalf("%d steps", d.Steps()-steps)
		}
		if !slices.Equal(image(t, d)[i%2], aMaster(3+i, 60, 60, 1)) {
			t.Fatal("the master is another one")
		}
	}
	// What is committed and deleted between checkpoints.
	for i := range 30 {
		k := long(four(i)[3:] + "k")
		commit(t, s, k, some(i*10))
		all[k] = some(i * 10)
		if i%3 == 0 {
			want(t, "Checkpoint", s.Checkpoint(), api.OK)
			if r := roomOf(s); r.sectors != 60 || r.frames != 16 {
				t.Fatalf("Room: %v", r)
			}
		}
		wantMap(t, open(t, lost(t, d), 16), all)
	}
	wantMap(t, s, all)
}

// What the disk refuses, at each step of a Checkpoint.
func TestCheckpointWithoutPower(t *testing.T) {
	for n := range 9 {
		s, d := format(t, kv.Shape{Log: 60, Pages: 60, Frames: 16})
		commit(t, s, "a", "x", "b", blobOf(3))
		d.Cut(n)
		if n == 8 { // just enough
			want(t, "Checkpoint", s.Checkpoint(), api.OK)
			wantMap(t, s, mapOf("a", "x", "b", blobOf(3)))
			wantRoom(t, s, room{55, 60, 16})
			continue
		}
		want(t, "Checkpoint", s.Checkpoint(), api.ErrDown)
		wantDown(t, s)
		wantPages(t, s, 55)
		wantMap(t, open(t, lost(t, d), 16), mapOf("a", "x", "b", blobOf(3)))
	}
}
