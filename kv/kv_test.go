package kv_test

import (
	"math"
	"slices"
	"testing"

	"tabulary/api"
	"tabulary/disk"
	"tabulary/kv"
)

// The chapter's example.
func TestExample(t *testing.T) {
	g := kv.Shape{Log: 8, Pages: 20, Frames: 16}
	if n := kv.Sectors(g); n != 30 {
		t.Fatalf("Sectors: %d", n)
	}
	s, d := format(t, g)
	commit(t, s, "a", "x")
	want(t, "Begin", s.Begin(), api.OK)
	wantPut(t, s, "b", "y", api.OK)
	want(t, "Abort", s.Abort(), api.OK)
	wantNoGet(t, s, "b", api.ErrNone)
	o := open(t, lost(t, d), 16)
	wantGet(t, o, "a", "x")
	wantMap(t, o, mapOf("a", "x"))
}

// P16.1

// numbers are those near the bounds of what a shape has, and far from them.
func numbers(least, most int) (inside, outside []int) {
	inside = []int{least, least + 1, (least + most) / 2, most - 1, most}
	outside = []int{least - 1, most + 1, 0, -1, -least, -most, least + 1<<32, -1 << 31, 1 << 32, math.MinInt, math.MaxInt, math.MaxInt - 1}
	return inside, outside
}

func TestSectors(t *testing.T) {
	logs, noLogs := numbers(2, 10000)
	pages, noPages := numbers(4, 4096)
	frames, noFrames := numbers(8, 256)
	all := func(l []int, m []int) []int { return slices.Concat(l, m) }
	for _, log := range all(logs, noLogs) {
		for _, page := range all(pages, noPages) {
			for _, frame := range all(frames, noFrames) {
				need := 0
				if slices.Contains(logs, log) && slices.Contains(pages, page) && slices.Contains(frames, frame) {
					need = 2 + log + page
				}
				if n := kv.Sectors(kv.Shape{Log: log, Pages: page, Frames: frame}); n != need {
					t.Fatalf("Sectors(%d, %d, %d): %d, not %d", log, page, frame, n, need)
				}
			}
		}
	}
}

func TestFormatOfNoDisk(t *testing.T) {
	for _, d := range []*disk.Disk{nil, {}} {
		for _, g := range []kv.Shape{{8, 20, 16}, {}, {1, 20, 16}, {8, 3, 16}, {8, 20, 7}, {math.MaxInt, math.MaxInt, math.MaxInt}} {
			wantNoFormat(t, d, g, api.ErrNil)
		}
	}
}

func TestFormatOfNoShape(t *testing.T) {
	d := newDisk(t, api.MaxSectors)
	before := image(t, d)
	for _, off := range []bool{false, true} { // ErrInvalid is told ahead of what the disk refuses
		if off {
			d.Cut(0)
		}
		for _, log := range []int{1, 0, -1, 10001, math.MinInt, math.MaxInt} {
			wantNoFormat(t, d, kv.Shape{Log: log, Pages: 20, Frames: 16}, api.ErrInvalid)
		}
		for _, pages := range []int{3, 2, 1, 0, -1, 4097, math.MinInt, math.MaxInt} {
			wantNoFormat(t, d, kv.Shape{Log: 8, Pages: pages, Frames: 16}, api.ErrInvalid)
		}
		for _, frames := range []int{7, 1, 0, -1, 257, math.MinInt, math.MaxInt} {
			wantNoFormat(t, d, kv.Shape{Log: 8, Pages: 20, Frames: frames}, api.ErrInvalid)
		}
		for _, g := range []kv.Shape{{10000, 20, 16}, {10000, 4096, 256}, {4091, 4, 8}, {2, 4093, 8}, {2, 4096, 8}, {3, 4092, 8}} {
			wantNoFormat(t, d, g, api.ErrInvalid) // there is such a shape, and no such disk
		}
	}
	if d.Steps() != 0 || !same(before, image(t, d)) {
		t.Fatal("a Format that is refused writes")
	}
}

func same(a, b [][]byte) bool { return slices.EqualFunc(a, b, slices.Equal[[]byte]) }

// Just as many sectors as are needed, more, and one fewer; the least of all shapes, and great ones.
func TestFormatOfDisks(t *testing.T) {
	for _, g := range []kv.Shape{{2, 4, 8}, {3, 4, 256}, {8, 20, 16}, {2, 1920, 8}, {2, 1921, 8}, {2, 3840, 8}, {2, 3841, 9}, {2, 4092, 8}, {4090, 4, 8}, {2090, 2004, 256}} {
		need := 2 + g.Log + g.Pages
		maps := (g.Pages + 1919) / 1920
		for _, more := range []int{0, 1, 7} {
			if need+more > api.MaxSectors {
				continue
			}
			d := newDisk(t, need+more)
			s, e := kv.Format(d, g)
			want(t, "Format", e, api.OK)
			wantRoom(t, s, room{g.Pages - maps - 1, g.Log, g.Frames})
			wantMap(t, s, nil)
			wantRunning(t, s, false)
			// The log's writes, the maps, the root, a Sync, the master, a Sync.
			if steps := g.Log + maps + 1 + 3; d.Steps() != steps || len(d.Pending()) != 0 {
				t.Fatalf("Format of %v: %d steps, not %d", g, d.Steps(), steps)
			}
			wantMap(t, open(t, d, g.Frames), nil)
		}
		wantNoFormat(t, newDisk(t, need-1), g, api.ErrInvalid)
	}
}

// What Format lays down, by the words of the chapters.
func TestWhatFormatWrites(t *testing.T) {
	s, d := format(t, kv.Shape{Log: 8, Pages: 20, Frames: 16})
	need := map[int][]byte{0: aMaster(1, 8, 20, 1), 10: aMap(0, 20, 0, 1), 11: aLeaf(1)}
	wantDisk(t, d, need)
	commit(t, s, "a", "x", "b", "")
	leaf := aLeaf(1, "a", "x", "b", "")
	group := aGroup(2, 0, leaf, []byte(four(1)))
	need[2], need[3] = group[0], group[1]
	wantDisk(t, d, need) // the log's epoch is one more than the master's; no page has changed
	want(t, "Checkpoint", s.Checkpoint(), api.OK)
	need[11], need[1] = leaf, aMaster(2, 8, 20, 1)
	wantDisk(t, d, need)
	commit(t, s, "c", "")
	group = aGroup(3, 0, aLeaf(1, "a", "x", "b", "", "c", ""), []byte(four(1)))
	need[2], need[3] = group[0], group[1]
	wantDisk(t, d, need)

	// The maps of more pages than one tells of; the root is behind them.
	s, d = format(t, kv.Shape{Log: 2, Pages: 3900, Frames: 8})
	wantDisk(t, d, map[int][]byte{0: aMaster(1, 2, 3900, 3), 4: aMap(0, 3900, 0, 1, 2, 3), 5: aMap(1, 3900), 6: aMap(2, 3900), 7: aLeaf(3)})
	wantRoom(t, s, room{3896, 2, 8})
}

// A Format over what stood there: its epoch follows that of the master, and nothing else of it is left.
func TestFormatOverAStore(t *testing.T) {
	d := newDisk(t, 100)
	junk := make([]byte, 256)
	for i := range junk {
		junk[i] = byte(i) | 1
	}
	for i := range 100 {
		d.Write(i, junk)
	}
	d.Sync()
	epoch := 0
	for _, g := range []kv.Shape{{8, 20, 16}, {8, 20, 16}, {40, 50, 8}, {2, 4, 8}, {20, 60, 20}} {
		steps := d.Steps()
		s, e := kv.Format(d, g)
		want(t, "Format", e, api.OK)
		epoch++
		l := image(t, d)
		if slot := (epoch + 1) % 2; !slices.Equal(l[slot], aMaster(epoch, uint64(g.Log), uint64(g.Pages), 1)) {
			t.Fatalf("the master is %v", l[slot])
		}
		for i := range g.Log {
			if !slices.Equal(l[2+i], make([]byte, 256)) {
				t.Fatalf("the log's sector %d is not of bytes 0", i)
			}
		}
		if !slices.Equal(l[2+g.Log], aMap(0, g.Pages, 0, 1)) || !slices.Equal(l[3+g.Log], aLeaf(1)) || d.Steps() != steps+g.Log+5 {
			t.Fatal("other pages are written")
		}
		wantMap(t, s, nil)
		if g.Log == 2 {
			continue
		}
		commit(t, s, "old", some(200))
		want(t, "Checkpoint", s.Checkpoint(), api.OK)
		epoch++
		commit(t, s, "new", some(30))
	}
	wantMap(t, open(t, lost(t, d), 20), mapOf("old", some(200), "new", some(30)))
}

// Where no master stands, an older log may be of the very epoch that is begun; nothing of it stands behind a Format.
func TestFormatOverALogOfItsEpoch(t *testing.T) {
	s, d := format(t, kv.Shape{Log: 8, Pages: 20, Frames: 16})
	commit(t, s, "a", "x")
	for i := range 2 {
		d.Spoil(i, 0, 9) // no slot stands
	}
	wantNoStore(t, d, 16, api.ErrNone)
	_, e := kv.Format(d, kv.Shape{Log: 8, Pages: 20, Frames: 16})
	want(t, "Format", e, api.OK)
	wantMap(t, open(t, d, 16), nil)
}

func TestFormatWithoutPower(t *testing.T) {
	g := kv.Shape{Log: 5, Pages: 20, Frames: 16}
	for n := range 10 {
		d := newDisk(t, 27)
		d.Cut(n)
		wantNoFormat(t, d, g, api.ErrDown)
		if d.Steps() != n {
			t.Fatalf("%d steps, not %d", d.Steps(), n)
		}
	}
	d := newDisk(t, 27)
	d.Cut(10)
	s, e := kv.Format(d, g) // just enough
	want(t, "Format", e, api.OK)
	wantMap(t, s, nil)
}

// P16.2

func TestOpenOfNoDisk(t *testing.T) {
	for _, d := range []*disk.Disk{nil, {}} {
		for _, frames := range []int{8, 256, 7, 257, 0, -1, math.MinInt, math.MaxInt} {
			wantNoStore(t, d, frames, api.ErrNil)
		}
	}
}

func TestOpenWithFrames(t *testing.T) {
	s, d := format(t, kv.Shape{Log: 8, Pages: 20, Frames: 16})
	commit(t, s, "a", "x")
	for _, frames := range []int{7, 6, 1, 0, -1, -8, 257, 258, 8 + 1<<32, math.MinInt, math.MaxInt} {
		wantNoStore(t, d, frames, api.ErrInvalid)
		wantNoStore(t, newDisk(t, 1), frames, api.ErrInvalid) // ahead of ErrNone
		off := newDisk(t, 30)
		off.Cut(0)
		wantNoStore(t, off, frames, api.ErrInvalid) // ahead of what the disk refuses
	}
	for _, frames := range []int{8, 9, 16, 255, 256} {
		o := open(t, d, frames)
		wantMap(t, o, mapOf("a", "x"))
		wantRoom(t, o, room{18, 8, frames})
	}
}

func TestOpenOfNoStore(t *testing.T) {
	for _, n := range []int{1, 2, 7, 8, 30, 4096} {
		d := newDisk(t, n)
		wantNoStore(t, d, 8, api.ErrNone)
		wantNoStore(t, d, 256, api.ErrNone)
		if d.Steps() != 0 {
			t.Fatal("Open writes")
		}
	}
	for _, n := range []int{1, 2, 7} { // no store is on them, whatever they have
		d := newDisk(t, n)
		d.Cut(0)
		wantNoStore(t, d, 8, api.ErrNone)
	}
	d := newDisk(t, 30)
	d.Cut(0)
	wantNoStore(t, d, 8, api.ErrDown)
}

// A master whose fields are none of a shape, or not all on the disk.
func TestOpenOfOtherFields(t *testing.T) {
	const huge = math.MaxUint64
	none := [][]uint64{
		{}, {8}, {8, 20}, {8, 20, 1, 0}, {8, 20, 1, 1}, {20, 1}, {0, 8, 20, 1},
		{1, 20, 1}, {0, 20, 1}, {10001, 20, 1}, {huge, 20, 1}, {1<<63 + 8, 20, 1}, {1<<32 + 8, 20, 1},
		{8, 3, 1}, {8, 0, 0}, {8, 4097, 1}, {8, huge, 1}, {8, 1<<63 + 20, 1}, {8, 1<<32 + 20, 1},
		{8, 21, 1}, {9, 20, 1}, {10000, 20, 1}, {8, 4096, 1}, {10000, 4096, 1}, {25, 4, 1}, // of the disk's 30 sectors one more is needed, or many
	}
	pages := map[int][]byte{10: aMap(0, 20, 0, 1), 11: aLeaf(1)}
	for _, l := range none {
		pages[0] = aMaster(1, l...)
		wantNoStore(t, laid(t, 30, pages), 8, api.ErrNone)
	}
	// The latest slot counts, whatever the other one has.
	pages[0], pages[1] = aMaster(1, 8, 20, 1), aMaster(2, 8, 20)
	wantNoStore(t, laid(t, 30, pages), 8, api.ErrNone)
	pages[1] = aMaster(2, 8, 20, 1)
	wantMap(t, open(t, laid(t, 30, pages), 8), nil)
	pages[0] = aMaster(3, 1, 20, 1)
	wantNoStore(t, laid(t, 30, pages), 8, api.ErrNone)
	// A body that is of no fields, another kind, a sector that is torn.
	delete(pages, 1)
	for _, s := range [][]byte{stamped(1, 3, "\x03\x08\x14"), stamped(1, 2, "\x03\x08\x14\x01"), stamped(1, 3, "\x03\x08\x14\x01\x00"), append(aMaster(1, 8, 20, 1)[:200], make([]byte, 56)...)} {
		pages[0] = s
		wantNoStore(t, laid(t, 30, pages), 8, api.ErrNone)
	}
}

// A root that is no page, or no node: what the tree refuses.
func TestOpenOfOtherRoots(t *testing.T) {
	for root, need := range map[uint64]api.Errno{20: api.ErrInvalid, 21: api.ErrInvalid, 1 << 31: api.ErrInvalid, 1 << 32: api.ErrInvalid, 1<<63 + 1: api.ErrInvalid, math.MaxUint64: api.ErrInvalid, 0: api.ErrForm, 2: api.ErrForm, 3: api.ErrSum} {
		d := laid(t, 30, map[int][]byte{0: aMaster(1, 8, 20, root), 10: aMap(0, 20, 0, 1, 2), 11: aLeaf(1), 12: aPage(2, 1, "ab")})
		before := image(t, d)
		wantNoStore(t, d, 8, need)
		if !same(before, image(t, d)) {
			t.Fatal("an Open that is refused writes")
		}
	}
}

// All groups of the log that stand are made good, in order, and their last root counts.
func TestOpenMakesGood(t *testing.T) {
	root := func(no int) []byte { return []byte(four(no)) }
	p := simple(40)
	p.pages[2] = make([]byte, 256) // torn on the disk, say: it is not read
	p.groups = [][][]byte{
		{aLeaf(2, "first", "1"), aMap(0, 40, 0, 2), root(2)},
		{aLeaf(2, "second", "2"), root(2)},
	}
	d := p.lay(t)
	o := open(t, d, 8)
	wantMap(t, o, mapOf("second", "2"))
	need := map[int][]byte{0: aMaster(6, 60, 40, 2), 1: aMaster(5, 60, 40, 1), 62: aMap(0, 40, 0, 2), 63: aLeaf(1, "k", "v"), 64: aLeaf(2, "second", "2")}
	at := 2
	for _, g := range p.groups {
		for _, s := range aGroup(6, at-2, g...) {
			need[at] = s
			at++
		}
	}
	wantDisk(t, d, need)
	wantRoom(t, o, room{38, 60, 8}) // the log begins anew

	// A group of the root alone; and one that goes back to the root that was there.
	p.groups = append(p.groups, [][]byte{aMap(0, 40, 0, 1), root(1)}, [][]byte{root(1)})
	wantMap(t, open(t, p.lay(t), 8), mapOf("k", "v"))
	// The group behind one that does not stand does not stand either.
	d = p.lay(t)
	d.Spoil(2+sectorsOf(2), 0, 77)
	wantMap(t, open(t, d, 8), mapOf("first", "1"))
	// Groups of other epochs are none: the master's own, and the next one.
	for _, epoch := range []int{4, 6} {
		l := map[int][]byte{0: aMaster(epoch, 60, 40, 1), 62: aMap(0, 40, 0, 1), 63: aLeaf(1, "k", "v")}
		for i, s := range aGroup(6, 0, p.groups[0]...) {
			l[2+i] = s
		}
		wantMap(t, open(t, laid(t, 102, l), 8), mapOf("k", "v"))
	}
	// Without a group, the master's root counts, and no page is written.
	p.groups = nil
	d = p.lay(t)
	steps := d.Steps()
	wantMap(t, open(t, d, 8), mapOf("k", "v"))
	if d.Steps() != steps+2 {
		t.Fatalf("%d steps, not a Write and a Sync", d.Steps()-steps)
	}
}

// As many frames as pages that the log has, and two; a page that is there twice counts once.
func TestOpenWithTooFewFrames(t *testing.T) {
	for n := 1; n <= 40; n += 3 {
		p := simple(100)
		taken := []int{0, 1}
		var group [][]byte
		for no := 2; no <= n; no++ {
			taken = append(taken, no)
			group = append(group, aPage(no, 1, "any"))
		}
		p.shape.Log = 200
		if n > 1 {
			p.groups = append(p.groups, append(slices.Clone(group), []byte(four(1))))
		}
		p.groups = append(p.groups, append(group, aLeaf(1, "k", "new"), []byte(four(1))))
		p.pages[0] = aMap(0, 100, taken...)
		for frames := 8; frames <= 50; frames++ {
			d := p.lay(t)
			if frames < n+2 {
				before := image(t, d)
				wantNoStore(t, d, frames, api.ErrBusy)
				if !same(before, image(t, d)) {
					t.Fatal("an Open that is refused writes")
				}
				continue
			}
			wantGet(t, open(t, d, frames), "k", "new")
		}
	}
}

// Groups that no store committed, and pages that are none: what the pages refuse.
func TestOpenOfOtherGroups(t *testing.T) {
	root, leaf := []byte(four(1)), aLeaf(1, "k", "new")
	another := slices.Clone(leaf)
	another[255]++
	short, more := leaf[:255], append(slices.Clone(leaf), 0)
	for what, l := range map[string]struct {
		group [][]byte
		need  api.Errno
	}{
		"another sum":                {[][]byte{another, root}, api.ErrSum},
		"a byte too few":             {[][]byte{short, root}, api.ErrShort},
		"a byte too many":            {[][]byte{more, root}, api.ErrShort},
		"no bytes":                   {[][]byte{nil, root}, api.ErrShort},
		"no page":                    {[][]byte{root, root}, api.ErrShort},
		"no cells' page":             {[][]byte{sealed(append([]byte{0, 0, 0, 1, 5, 9}, make([]byte, 246)...)), root}, api.ErrForm},
		"a page that is not there":   {[][]byte{aLeaf(40, "k", "new"), root}, api.ErrInvalid},
		"one that is far from there": {[][]byte{aLeaf(1<<31-1, "k", "new"), root}, api.ErrInvalid},
		"a number of no page":        {[][]byte{aLeaf(1<<31, "k", "new"), root}, api.ErrForm},
		"no root":                    {[][]byte{leaf}, api.ErrForm},
		"a root of three bytes":      {[][]byte{leaf, root[1:]}, api.ErrForm},
		"a root of five bytes":       {[][]byte{leaf, append([]byte{0}, root...)}, api.ErrForm},
		"a root of no bytes":         {[][]byte{leaf, nil}, api.ErrForm},
		"a root that is no page":     {[][]byte{leaf, []byte(four(40))}, api.ErrInvalid},
		"a root that is no node":     {[][]byte{leaf, []byte(four(0))}, api.ErrForm},
		"a root of another sum":      {[][]byte{leaf, []byte(four(7))}, api.ErrSum},
		"a map of another form":      {[][]byte{aMap(0, 32, 0, 1), root}, api.ErrForm},
		"a map that is not taken":    {[][]byte{aMap(0, 40, 1), root}, api.ErrForm},
	} {
		p := simple(40)
		p.groups = [][][]byte{l.group}
		d := p.lay(t)
		before := image(t, d)
		if s, e := kv.Open(d, 8); s != nil || e != l.need {
			t.Errorf("%s: error %d, not %d", what, e, l.need)
		}
		if !same(before, image(t, d)) {
			t.Errorf("%s: an Open that is refused writes", what)
		}
	}
}

// sealed has a sum behind 252 bytes.
func sealed(b []byte) []byte { return append(b, sumOf(b)...) }

// Pages that lie on the disk as none: what the space and the tree refuse.
func TestOpenOfOtherPages(t *testing.T) {
	for what, l := range map[string]struct {
		no   int
		b    []byte
		need api.Errno
	}{
		"no map":             {0, make([]byte, 256), api.ErrSum},
		"a map's other kind": {0, aPage(0, 1, string(aMap(0, 40, 0, 1)[10:15])), api.ErrForm},
		"no root":            {1, make([]byte, 256), api.ErrSum},
		"another number":     {1, aLeaf(2, "k", "v"), api.ErrStale},
		"another kind":       {1, aPage(1, 2), api.ErrForm},
	} {
		p := simple(40)
		p.pages[l.no] = l.b
		d := p.lay(t)
		if s, e := kv.Open(d, 8); s != nil || e != l.need {
			t.Errorf("%s: error %d, not %d", what, e, l.need)
		}
	}
}

// The greatest epoch of a log is a store's last one: behind it no checkpoint is made.
func TestLastEpoch(t *testing.T) {
	p := simple(40)
	p.epoch = 999999997
	d := p.lay(t)
	s := open(t, d, 8)
	want(t, "Checkpoint", s.Checkpoint(), api.OK) // the master's epoch is 999999999, the log's 1000000000
	commit(t, s, "l", "w")
	before := image(t, d)
	want(t, "Checkpoint", s.Checkpoint(), api.ErrInvalid)
	if !same(image(t, d), before) {
		t.Fatal("a Checkpoint that is refused writes")
	}
	commit(t, s, "m", "x")
	wantMap(t, s, mapOf("k", "v", "l", "w", "m", "x"))
	d = lost(t, d)
	before = image(t, d)
	wantNoStore(t, d, 8, api.ErrInvalid)
	wantNoFormat(t, d, p.shape, api.ErrInvalid)
	if !same(image(t, d), before) || d.Steps() != 0 {
		t.Fatal("what is refused writes")
	}
}

// P16.3

func TestBeginAndRunning(t *testing.T) {
	s, d := format(t, kv.Shape{Log: 8, Pages: 20, Frames: 16})
	steps := d.Steps()
	wantRunning(t, s, false)
	for range 3 {
		want(t, "Begin", s.Begin(), api.OK)
		wantRunning(t, s, true)
		want(t, "Begin", s.Begin(), api.ErrState)
		wantPut(t, s, "a", "x", api.OK)
		want(t, "Begin", s.Begin(), api.ErrState) // and the transaction goes on
		wantGet(t, s, "a", "x")
		want(t, "Abort", s.Abort(), api.OK)
		wantRunning(t, s, false)
		want(t, "Begin", s.Begin(), api.OK)
		wantRunning(t, s, true)
		want(t, "Commit", s.Commit(), api.OK)
		wantRunning(t, s, false)
	}
	if d.Steps() != steps {
		t.Fatal("a transaction that changed no page writes")
	}
}

// Calls of what is nil, or what no call made.
func TestNoStore(t *testing.T) {
	for _, s := range []*kv.Store{nil, {}} {
		want(t, "Begin", s.Begin(), api.ErrNil)
		for _, key := range []string{"a", "", long("") + "x"} {
			wantNoGet(t, s, key, api.ErrNil)
			wantPut(t, s, key, "x", api.ErrNil)
			wantPut(t, s, key, some(4001), api.ErrNil)
			want(t, "Delete", s.Delete(key), api.ErrNil)
			wantNoScan(t, s, key, "", 1, api.ErrNil)
			wantNoScan(t, s, key, "", -1, api.ErrNil)
		}
		want(t, "Commit", s.Commit(), api.ErrNil)
		want(t, "Abort", s.Abort(), api.ErrNil)
		want(t, "Checkpoint", s.Checkpoint(), api.ErrNil)
		wantRunning(t, s, false)
		wantRoom(t, s, room{})
		wantNoCheck(t, s, api.ErrNil)
	}
}

// P16.4

func TestGetAndScan(t *testing.T) {
	s, _ := format(t, kv.Shape{Log: 60, Pages: 60, Frames: 40})
	all := mapOf("a", "x", "b", "", "c", some(600), long("d"), some(48), "e", some(49))
	for k, b := range all {
		commit(t, s, k, b)
	}
	over := mapOf("a", "other", "b", "", long("d"), some(700), "e", some(49), "f", "new")
	reads := func(m map[string]string) {
		t.Helper()
		wantMap(t, s, m)
		wantScan(t, s, "b", "e", 9, m)
		wantScan(t, s, "b", "e", 1, m)
		wantScan(t, s, "b", "b", 9, m)
		wantScan(t, s, "a", "", 0, m)
		wantScan(t, s, "zz", "", 3, m)
		wantNoGet(t, s, "", api.ErrInvalid)
		wantNoGet(t, s, long("x")+"x", api.ErrInvalid)
		wantNoGet(t, s, "no", api.ErrNone)
		wantNoScan(t, s, "a", "b", -1, api.ErrInvalid)
	}
	reads(all)
	want(t, "Begin", s.Begin(), api.OK)
	reads(all)
	put(t, s, "a", "other", long("d"), some(700), "f", "new")
	want(t, "Delete", s.Delete("c"), api.OK)
	reads(over) // what the transaction has put and deleted, over the committed map
	want(t, "Abort", s.Abort(), api.OK)
	reads(all)
	want(t, "Begin", s.Begin(), api.OK)
	put(t, s, "a", "other", long("d"), some(700), "f", "new")
	want(t, "Delete", s.Delete("c"), api.OK)
	want(t, "Commit", s.Commit(), api.OK)
	reads(over)
	want(t, "Checkpoint", s.Checkpoint(), api.OK)
	reads(over)
}

// All frames hold pages that the transaction changed: what is to be read has none.
func TestReadWithoutAFrame(t *testing.T) {
	s, d := format(t, kv.Shape{Log: 60, Pages: 60, Frames: 16})
	commit(t, s, "a", some(300), "b", "y")
	o := open(t, d, 8)
	all := mapOf("a", some(300), "b", "y", "c", blobOf(6))
	want(t, "Begin", o.Begin(), api.OK)
	put(t, o, "c", blobOf(6)) // the map, the leaf, six pages
	wantRoom(t, o, room{60 - 4 - 6, 60, 0})
	for range 3 {
		wantNoGet(t, o, "a", api.ErrBusy)
		wantNoScan(t, o, "", "", 9, api.ErrBusy)
		wantNoCheck(t, o, api.ErrBusy)
		wantRunning(t, o, true)
		wantGet(t, o, "b", "y")
		wantGet(t, o, "c", blobOf(6))
		wantScan(t, o, "b", "", 9, all)
		wantRoom(t, o, room{60 - 4 - 6, 60, 0})
	}
	want(t, "Abort", o.Abort(), api.OK)
	delete(all, "c")
	wantMap(t, o, all)
}

// What is handed in stays as it was, and is not kept; what is told is memory of its own.
func TestMemory(t *testing.T) {
	for _, size := range []int{0, 1, 48, 49, 700} {
		s, _ := format(t, kv.Shape{Log: 60, Pages: 60, Frames: 40})
		body := append(make([]byte, 0, size+20), some(size)...)
		spare := body[size : size+20]
		check := func() {
			t.Helper()
			if string(body) != some(size) || !slices.Equal(spare, make([]byte, 20)) {
				t.Fatal("what is handed in has changed")
			}
		}
		want(t, "Begin", s.Begin(), api.OK)
		want(t, "Put", s.Put("a", body), api.OK)
		want(t, "Put", s.Put("b", body), api.OK)
		check()
		for i := range body {
			body[i] = 0
		}
		wantGet(t, s, "a", some(size))
		want(t, "Commit", s.Commit(), api.OK)
		for range 2 {
			one, _ := s.Get("a")
			two, _ := s.Scan("", "", 9)
			for _, b := range [][]byte{one, two[0].Body, two[1].Body} {
				for i := range b[:cap(b)] {
					b[:cap(b)][i] = 99
				}
				wantMap(t, s, mapOf("a", some(size), "b", some(size)))
			}
			one, _ = s.Get("a")
			other, _ := s.Get("a")
			l, _ := s.Scan("", "", 9)
			for _, b := range [][]byte{other, l[0].Body} {
				for i := range b[:cap(b)] {
					b[:cap(b)][i] = 99
				}
				if string(one) != some(size) || string(l[1].Body) != some(size) {
					t.Fatal("two lists that are told share memory")
				}
			}
			two = append(l[:0], two...)[:0] // what a list has room for is no one else's
			wantMap(t, s, mapOf("a", some(size), "b", some(size)))
		}
	}
}
