package kv_test

import (
	"strconv"
	"strings"
	"testing"

	"tabulary/api"
	"tabulary/kv"
)

// P16.8

// upTo are the numbers from 0 on, ahead of n.
func upTo(n int) []int {
	var l []int
	for no := range n {
		l = append(l, no)
	}
	return l
}

// broad is a store of keys 10, 11 and on, each with a leaf of its own, that is checkpointed and opened anew with so many frames.
func broad(t *testing.T, keys, frames int) *kv.Store {
	t.Helper()
	s, d := format(t, kv.Shape{Log: 200, Pages: 100, Frames: 60})
	for i := range keys {
		k := strconv.Itoa(10 + i)
		commit(t, s, long(k+"a"), some(48), long(k+"b"), some(48))
		want(t, "Checkpoint", s.Checkpoint(), api.OK)
	}
	return open(t, d, frames)
}

// All is told, whatever the frames hold: also where none is left for a map.
func TestRoomWithoutAFrame(t *testing.T) {
	s := broad(t, 12, 8)
	before := roomOf(s)
	if before.sectors != 200 || before.frames != 8 {
		t.Fatalf("Room: %v", before)
	}
	want(t, "Begin", s.Begin(), api.OK)
	for i := range 8 { // a leaf each, and no map
		k := strconv.Itoa(10 + i)
		wantPut(t, s, long(k+"a"), strings.Repeat("z", 48), api.OK)
		wantRoom(t, s, room{before.pages, 200, 7 - i})
		wantRoom(t, s, room{before.pages, 200, 7 - i})
	}
	wantNoCheck(t, s, api.ErrBusy)
	wantRoom(t, s, room{before.pages, 200, 0})
	wantNoGet(t, s, long("10a"), api.ErrBusy) // nor for the root
	want(t, "Commit", s.Commit(), api.ErrFull)
	wantRoom(t, s, before)
}

// Of several maps, some of which were changed, and some of which no frame holds.
func TestRoomOfSeveralMaps(t *testing.T) {
	const pages = 3900
	full := append(upTo(1918), 1919)
	p := plan{shape: kv.Shape{Log: 60, Pages: pages, Frames: 16}, root: 4, epoch: 1, pages: map[int][]byte{
		0: aMap(0, pages, full...), 1: aMap(1, pages, 1920, 1922), 2: aMap(2, pages, 3899), 4: aLeaf(4, "k", "v"),
	}}
	const left = pages - 1919 - 2 - 1
	d := p.lay(t)
	s := open(t, d, 8)
	wantRoom(t, s, room{left, 60, 8})
	for n := 1; n <= 5; n++ {
		want(t, "Begin", s.Begin(), api.OK)
		wantPut(t, s, "a", blobOf(n), api.OK) // the map 0 is full by the first page, the map 1 gives the others
		used := 2 + n
		if n > 1 {
			used++
		}
		wantRoom(t, s, room{left - n, 60, 8 - used})
		wantPut(t, s, "k", "w", api.OK)
		wantRoom(t, s, room{left - n, 60, 8 - used})
		want(t, "Abort", s.Abort(), api.OK)
		wantRoom(t, s, room{left, 60, 8})
	}
	// With the first map full, and not changed.
	commit(t, s, "one", blobOf(1))
	wantRoom(t, s, room{left - 1, 60 - sectorsOf(3), 5})
	want(t, "Checkpoint", s.Checkpoint(), api.OK)
	want(t, "Begin", s.Begin(), api.OK)
	wantPut(t, s, "a", blobOf(6), api.OK) // the map 1, six pages, the leaf
	wantRoom(t, s, room{left - 7, 60, 0})
	d.Cut(0) // nothing need be read
	wantRoom(t, s, room{left - 7, 60, 0})
	want(t, "Abort", s.Abort(), api.OK)
	wantRoom(t, s, room{left - 1, 60, 8})
}

// A store whose disk has no power tells what it has room for; it is not down till a Commit or a Checkpoint is refused.
func TestRoomWithoutPower(t *testing.T) {
	s, d := format(t, kv.Shape{Log: 60, Pages: 60, Frames: 8})
	commit(t, s, "a", blobOf(2))
	want(t, "Checkpoint", s.Checkpoint(), api.OK)
	d.Cut(0)
	before := roomOf(s)
	for range 2 {
		want(t, "Begin", s.Begin(), api.OK)
		if e := s.Put("b", []byte(blobOf(6))); e != api.OK && e != api.ErrDown {
			t.Fatalf("Put: error %d", e)
		}
		if s.Running() {
			wantRoom(t, s, room{before.pages - 6, 60, 0})
			want(t, "Abort", s.Abort(), api.OK)
		}
		wantRoom(t, s, before)
	}
	want(t, "Checkpoint", s.Checkpoint(), api.ErrDown)
	wantDown(t, s)
	wantRoom(t, s, before)
}

func TestCheck(t *testing.T) {
	s, _ := format(t, kv.Shape{Log: 200, Pages: 100, Frames: 60})
	wantMap(t, s, nil)
	all := map[string]string{}
	for i := range 20 {
		k := long(strconv.Itoa(i))
		commit(t, s, k, some(i*30))
		all[k] = some(i * 30)
		wantMap(t, s, all)
		if i%3 == 0 {
			want(t, "Checkpoint", s.Checkpoint(), api.OK)
		}
	}
	want(t, "Begin", s.Begin(), api.OK)
	for i := range 20 {
		want(t, "Delete", s.Delete(long(strconv.Itoa(i))), api.OK)
		if n, e := s.Check(); e != api.OK || n != 19-i { // of what the transaction has done
			t.Fatalf("Check: %d, error %d", n, e)
		}
	}
	want(t, "Abort", s.Abort(), api.OK)
	wantMap(t, s, all)
}

// A page that is taken, and is none of the tree's; and what the tree's Check refuses.
func TestCheckOfOtherStores(t *testing.T) {
	for what, l := range map[string]struct {
		taken []int
		leaf  []byte
		need  api.Errno
	}{
		"as it should be":        {[]int{0, 1}, nil, api.OK},
		"a page more":            {[]int{0, 1, 2}, nil, api.ErrForm},
		"the last page more":     {[]int{0, 1, 39}, nil, api.ErrForm},
		"many pages more":        {upTo(40), nil, api.ErrForm},
		"not its own":            {[]int{0}, nil, api.ErrForm},
		"another one":            {[]int{0, 2}, nil, api.ErrForm},
		"a blob that is none":    {[]int{0, 1, 2}, aPage(1, 5, "\x01k\x05\x01"+four(2)), api.ErrForm},
		"a blob":                 {[]int{0, 1, 3}, aPage(1, 5, "\x01k\x05\x01"+four(3)), api.OK},
		"a blob and a page more": {[]int{0, 1, 3, 4}, aPage(1, 5, "\x01k\x05\x01"+four(3)), api.ErrForm},
		"keys that fall":         {[]int{0, 1}, aPage(1, 5, "\x01k\x01\x00", "\x01a\x01\x00"), api.ErrForm},
	} {
		p := simple(40)
		p.pages[0] = aMap(0, 40, l.taken...)
		p.pages[3] = aPage(3, 4, four(0)+four(60)+some(60))
		if l.leaf != nil {
			p.pages[1] = l.leaf
		}
		d := p.lay(t)
		s, e := kv.Open(d, 8)
		if e != api.OK {
			if l.need == api.OK || e != api.ErrForm {
				t.Errorf("%s: Open: error %d", what, e)
			}
			continue
		}
		keys := 0
		if l.need == api.OK {
			keys = 1
		}
		if n, e := s.Check(); n != keys || e != l.need {
			t.Errorf("%s: %d keys, error %d, not %d", what, n, e, l.need)
		}
	}
	// What the disk refuses, and what lies there as no page.
	s := broad(t, 12, 8)
	wantMapSize(t, s, 24)
	p := simple(40)
	p.pages[0], p.pages[1] = aMap(0, 40, 0, 1, 3), aPage(1, 5, "\x01k\x05\x01"+four(3))
	d := p.lay(t)
	s = open(t, d, 8)
	wantNoCheck(t, s, api.ErrForm) // the blob's page has another sum: the tree's Check tells that so
	d.Cut(0)
	wantNoCheck(t, s, api.ErrDown)
}

func wantMapSize(t *testing.T, s *kv.Store, need int) {
	t.Helper()
	if n, e := s.Check(); n != need || e != api.OK {
		t.Fatalf("Check: %d, error %d, not %d", n, e, need)
	}
}

// P16.9

// tight is a store with some keys, in which so many pages are left, and that many frames hold no dirty page; the log is empty.
func tight(t *testing.T, keys, pages, frames, dirty int) (*kv.Store, map[string]string) {
	t.Helper()
	g := kv.Shape{Log: 2*(frames+dirty) + 2, Pages: 400, Frames: frames + dirty}
	s, _ := format(t, g)
	all := map[string]string{}
	add := func(k, b string) {
		t.Helper()
		commit(t, s, k, b)
		all[k] = b
		want(t, "Checkpoint", s.Checkpoint(), api.OK)
	}
	for i := range keys {
		add(long(strconv.Itoa(1000+i*37%keys)), some(48-i%3))
	}
	for i := 0; ; i++ {
		left, _, _ := s.Room()
		left -= pages + max(dirty-2, 0)
		if left <= 0 {
			break
		}
		add("!"+strconv.Itoa(100+i), blobOf(min(left, 15)))
		if now, _, _ := s.Room(); now < pages+max(dirty-2, 0) { // a node was cut, too
			want(t, "Begin", s.Begin(), api.OK)
			k := "!" + strconv.Itoa(100+i)
			want(t, "Delete", s.Delete(k), api.OK)
			want(t, "Commit", s.Commit(), api.OK)
			want(t, "Checkpoint", s.Checkpoint(), api.OK)
			delete(all, k)
			now, _, _ = s.Room()
			add(k, blobOf(now-pages-max(dirty-2, 0)-1))
		}
	}
	if dirty > 2 { // the map, a leaf, and the pages of a blob
		k, b := "!", blobOf(dirty-2)
		commit(t, s, k, b)
		all[k] = b
	}
	return s, all
}

// With 40 pages and 40 frames, and twice as many sectors of the log as there are frames, and two, no Put, Delete or Commit is refused for want of them.
func TestEnough(t *testing.T) {
	t.Parallel()
	for _, keys := range []int{0, 1, 30, 100} {
		for _, dirty := range []int{0, 3, 10} {
			for i := range 5 {
				enough(t, keys, dirty, i)
			}
		}
	}
}

func enough(t *testing.T, keys, dirty, i int) {
	t.Helper()
	s, all := tight(t, keys, 40, 40, dirty)
	r := roomOf(s)
	if r.pages < 40 || r.pages > 42 || r.frames < 40 || r.frames > 43 {
		t.Fatalf("%d keys, %d dirty: Room: %v", keys, dirty, r)
	}
	if dirty > 0 { // the log has just enough, too
		commits := 0
		for r.sectors-sectorsOf(1) >= 2*(40+dirty)+2 && commits < 9 {
			commit(t, s, "!!", strconv.Itoa(commits))
			all["!!"] = strconv.Itoa(commits)
			commits++
			r = roomOf(s)
		}
	}
	key := long(strconv.Itoa(1000 + i*max(keys, 1)/5))
	want(t, "Begin", s.Begin(), api.OK)
	switch _, ok := all[key]; {
	case i%4 == 3 && ok:
		want(t, "Delete", s.Delete(key), api.OK)
		delete(all, key)
	case i%4 == 1:
		key = key[:39] + "\x7f" // behind it
		fallthrough
	default:
		wantPut(t, s, key, some(4000), api.OK)
		all[key] = some(4000)
	}
	// Each next one as long as there is enough.
	for k := 0; ; k++ {
		if r := roomOf(s); r.pages < 40 || r.frames < 40 {
			break
		}
		key := "more" + strconv.Itoa(k)
		wantPut(t, s, key, some(k*300%4001), api.OK)
		all[key] = some(k * 300 % 4001)
	}
	enoughLog := roomOf(s).sectors >= 2*(40+dirty)+2
	switch e := s.Commit(); {
	case e == api.OK:
		wantMap(t, s, all)
	case enoughLog || e != api.ErrLogFull:
		t.Fatalf("%d keys, %d dirty: Commit: error %d; %v", keys, dirty, e, roomOf(s))
	}
}

// As many pages as the frames have room for, in a log that has just twice as many sectors as there are frames, and two.
func TestEnoughLog(t *testing.T) {
	for frames := 8; frames <= 256; frames += 31 {
		s, _ := format(t, kv.Shape{Log: 2*frames + 2, Pages: 400, Frames: frames})
		want(t, "Begin", s.Begin(), api.OK)
		for n := frames - 2 - 3; n > 0; n -= 16 {
			wantPut(t, s, "k"+strconv.Itoa(n), blobOf(min(n, 16)), api.OK)
		}
		want(t, "Commit", s.Commit(), api.OK)
		if r := roomOf(s); r.frames < 2 || r.frames > 8 {
			t.Fatalf("Room: %v", r)
		}
	}
}
