package kv_test

import (
	"maps"
	"slices"
	"strconv"
	"testing"

	"tabulary/api"
	"tabulary/disk"
	"tabulary/kv"
)

// P16.10 and P16.11

// dice are numbers in an order that looks like none, and is the same each time.
type dice uint64

func (d *dice) below(n int) int {
	*d = *d*6364136223846793005 + 1442695040888963407
	return int(uint64(*d) >> 33 % uint64(n))
}

// act is a checkpoint, or a transaction: of Puts of keys and bodies, and then of Deletes.
type act struct {
	checkpoint, abort bool
	puts, deletes     []string
}

// play is what is done with a store of a shape, on a disk that has a few sectors more, and a master of an epoch that tells of no store; 0: none.
type play struct {
	shape kv.Shape
	acts  []act
	epoch int
}

// fresh is the disk ahead of a play.
func (p play) fresh(t *testing.T) *disk.Disk {
	t.Helper()
	sectors := map[int][]byte{}
	if p.epoch > 0 {
		sectors[p.epoch%2] = aMaster(p.epoch)
	}
	return lost(t, laid(t, kv.Sectors(p.shape)+2, sectors))
}

// outcome is what a play has come to where the power went off: whether Format was OK, what was committed for sure, and what was being committed.
type outcome struct {
	formatted    bool
	sure, maybe  map[string]string
	step, before int // where it went off, and how many steps Format had
}

// after is what a transaction makes of a map.
func (a act) after(m map[string]string) map[string]string {
	m = maps.Clone(m)
	for i := 0; i < len(a.puts); i += 2 {
		m[a.puts[i]] = a.puts[i+1]
	}
	for _, k := range a.deletes {
		delete(m, k)
	}
	return m
}

// changes carries out what a transaction changes; it tells whether the power was on.
func (a act) changes(t *testing.T, s *kv.Store) bool {
	t.Helper()
	for i := 0; i < len(a.puts); i += 2 {
		switch e := s.Put(a.puts[i], []byte(a.puts[i+1])); e {
		case api.OK:
		case api.ErrDown:
			return false
		default:
			t.Fatalf("Put: error %d", e)
		}
	}
	for _, k := range a.deletes {
		switch e := s.Delete(k); e {
		case api.OK:
		case api.ErrDown:
			return false
		default:
			t.Fatalf("Delete(%q): error %d", k, e)
		}
	}
	return true
}

// run plays on a disk till the power goes off, or to the end.
func (p play) run(t *testing.T, d *disk.Disk) outcome {
	t.Helper()
	s, e := kv.Format(d, p.shape)
	if e == api.ErrDown {
		return outcome{}
	}
	want(t, "Format", e, api.OK)
	o := outcome{formatted: true, sure: map[string]string{}, before: d.Steps()}
	for _, a := range p.acts {
		if a.checkpoint {
			if e := s.Checkpoint(); e != api.OK {
				want(t, "Checkpoint", e, api.ErrDown)
				return o
			}
			continue
		}
		want(t, "Begin", s.Begin(), api.OK)
		if !a.changes(t, s) {
			return o
		}
		if a.abort {
			want(t, "Abort", s.Abort(), api.OK)
			continue
		}
		o.maybe = a.after(o.sure)
		if e := s.Commit(); e != api.OK {
			want(t, "Commit", e, api.ErrDown)
			return o
		}
		o.sure, o.maybe = o.maybe, nil
	}
	wantMap(t, s, o.sure)
	return o
}

// tear is a loss, and whether the sum of the sector that is torn is made right.
type tear struct {
	api.Loss
	forged bool
}

// places are where a write is torn: at and around each part of a stamped sector, and of a page.
func places() []int {
	return []int{0, 1, 4, 5, 7, 8, 9, 10, 12, 16, 40, 128, 200, 243, 244, 246, 248, 249, 251, 252, 253, 254, 255, 256}
}

// keeps are lists of which writes are kept: none, all, each alone, all but each, all up to each, and some.
func keeps(d *dice, waiting int) [][]bool {
	l := [][]bool{make([]bool, waiting), slices.Repeat([]bool{true}, waiting)}
	for i := range waiting {
		only, but, upTo, any := make([]bool, waiting), make([]bool, waiting), make([]bool, waiting), make([]bool, waiting)
		for k := range waiting {
			only[k], but[k], upTo[k], any[k] = k == i, k != i, k <= i, d.below(2) == 0
		}
		l = append(l, only, but, upTo, any)
	}
	return l
}

// tears are losses of so many writes that wait: every one without a sector that is torn, and for each write and place a few with that.
func tears(d *dice, waiting int) []tear {
	var l []tear
	all := keeps(d, waiting)
	for _, kept := range all {
		l = append(l, tear{api.Loss{Kept: kept, Torn: -1}, false})
	}
	for i := range waiting {
		for _, at := range places() {
			for _, kept := range [][]bool{all[0], all[1], all[d.below(len(all))]} {
				l = append(l, tear{api.Loss{Kept: kept, Torn: i, At: at}, d.below(2) == 0})
			}
		}
	}
	return l
}

// few are some of these.
func few(d *dice, l []tear, n int) []tear {
	if len(l) <= n {
		return l
	}
	m := []tear{l[0], l[1]}
	for len(m) < n {
		m = append(m, l[d.below(len(l))])
	}
	return m
}

// lose is the disk behind a loss. Where the sum is forged, it tells of a sector that is torn that it was written whole.
func (p play) lose(t *testing.T, d *disk.Disk, l tear) *disk.Disk {
	t.Helper()
	x, e := d.Lose(l.Loss)
	want(t, "Lose", e, api.OK)
	if l.forged {
		i := d.Pending()[l.Torn]
		b, _ := x.Read(i)
		end := 244 // of a stamped sector
		if i >= 2+p.shape.Log {
			end = 252
		}
		for k, c := range sumOf(b[:end]) {
			x.Spoil(i, end+k, c)
		}
	}
	return x
}

// wantOutcome asks that the store that is opened has what it is to have, and tells what that is; nil: there is no store.
func (p play) wantOutcome(t *testing.T, x *disk.Disk, o outcome) (*kv.Store, map[string]string) {
	t.Helper()
	s, e := kv.Open(x, p.shape.Frames)
	if e == api.ErrNone && !o.formatted {
		return nil, nil
	}
	if e != api.OK {
		t.Fatalf("step %d: Open: error %d", o.step, e)
	}
	l, e := s.Scan("", "", 9999)
	want(t, "Scan", e, api.OK)
	got := map[string]string{}
	for _, p := range l {
		got[p.Key] = string(p.Body)
	}
	if !maps.Equal(got, o.sure) && (o.maybe == nil || !maps.Equal(got, o.maybe)) {
		t.Fatalf("step %d: the store has %d pairs, not %d or %d; or others", o.step, len(got), len(o.sure), len(o.maybe))
	}
	if n, e := s.Check(); e != api.OK || n != len(got) {
		t.Fatalf("step %d: Check: %d, error %d", o.step, n, e)
	}
	wantRunning(t, s, false)
	if r := roomOf(s); r.sectors != p.shape.Log || r.frames != p.shape.Frames {
		t.Fatalf("Room: %v", r)
	}
	return s, got
}

// goOn asks that a store goes on, and keeps what is committed and what is checkpointed.
func (p play) goOn(t *testing.T, s *kv.Store, x *disk.Disk, has map[string]string) {
	t.Helper()
	a := act{puts: []string{"go", "on"}}
	if p.shape.Log > 10 {
		a.puts = append(a.puts, "again", some(250))
	}
	for k := range has {
		if a.deletes = append(a.deletes, k); len(a.deletes) == 2 {
			break
		}
	}
	want(t, "Begin", s.Begin(), api.OK)
	a.changes(t, s)
	want(t, "Commit", s.Commit(), api.OK)
	has = a.after(has)
	wantMap(t, s, has)
	_, got := p.wantOutcome(t, lost(t, x), outcome{formatted: true, sure: has})
	want(t, "Checkpoint", s.Checkpoint(), api.OK)
	_, got = p.wantOutcome(t, lost(t, x), outcome{formatted: true, sure: got})
	wantMap(t, s, got)
}

// again cuts an Open at each step, and asks that what is opened behind another loss has the same.
func (p play) again(t *testing.T, d *dice, from *disk.Disk, o outcome) {
	t.Helper()
	for n := 0; ; n++ {
		x := lost(t, from) // nothing waits: it is a copy
		x.Cut(n)
		s, e := kv.Open(x, p.shape.Frames)
		if e != api.ErrDown {
			if o.formatted || e != api.ErrNone {
				want(t, "Open", e, api.OK)
			}
			if s != nil && x.Steps() != n {
				t.Fatalf("%d steps, not %d", x.Steps(), n)
			}
			return
		}
		for _, l := range few(d, tears(d, len(x.Pending())), 4) {
			y := p.lose(t, x, l)
			if s, got := p.wantOutcome(t, y, o); s != nil && d.below(10) == 0 {
				p.goOn(t, s, y, got)
			}
		}
	}
}

// cut cuts a play at each step, with many losses.
func (p play) cut(t *testing.T, d *dice) {
	t.Helper()
	whole := p.fresh(t)
	first := p.run(t, whole).before
	for n := range whole.Steps() + 1 {
		x := p.fresh(t)
		x.Cut(n)
		o := p.run(t, x)
		o.step = n
		if o.formatted != (n >= first) {
			t.Fatalf("step %d: formatted %v", n, o.formatted)
		}
		most := 5000 / whole.Steps()
		if n+4 < first { // the log is wiped
			most = 10
		}
		l := few(d, tears(d, len(x.Pending())), most)
		for i, l := range l {
			y := p.lose(t, x, l)
			copy := lost(t, y)
			s, got := p.wantOutcome(t, y, o)
			if s != nil && d.below(20) == 0 {
				p.goOn(t, s, y, got)
			}
			if i < 2 && (n+i)%4 == 0 || d.below(100) == 0 { // nothing is kept, or all
				p.again(t, d, copy, outcome{formatted: s != nil, sure: got, step: n})
			}
		}
	}
}

// wordy are transactions of one key and of many, of short and long bodies, that are committed and aborted, with checkpoints between.
func wordy() []act {
	return []act{
		{puts: []string{"a", "x"}},
		{puts: []string{"a", "y", "b", some(300)}},
		{abort: true, puts: []string{"c", some(600), "a", "gone"}, deletes: []string{"b"}},
		{puts: []string{"c", some(700), "d", ""}, deletes: []string{"a"}},
		{checkpoint: true},
		{deletes: []string{"c"}},
		{puts: []string{"e", some(240), "b", some(900)}},
		{abort: true, deletes: []string{"b", "d", "e"}},
		{checkpoint: true},
		{checkpoint: true},
		{puts: []string{"b", "short", "e", "shorter"}},
		{deletes: []string{"b", "e", "d"}},
		{},
		{puts: []string{"z", some(500)}},
	}
}

// tall are transactions of keys that are as long as may be, so that nodes are cut and joined, and the root changes.
func tall() []act {
	var l []act
	key := func(i int) string { return long(strconv.Itoa(1000 + i*7%30)) }
	for i := 0; i < 30; i += 5 {
		a := act{}
		for k := range 5 {
			a.puts = append(a.puts, key(i+k), some((i+k)%49))
		}
		if i == 10 {
			l = append(l, act{abort: true, puts: a.puts})
		}
		if i == 15 {
			l = append(l, act{checkpoint: true})
		}
		l = append(l, a)
	}
	for i := 0; i < 30; i += 10 {
		a := act{}
		for k := range 10 {
			a.deletes = append(a.deletes, key(i+k))
		}
		l = append(l, a)
	}
	return append(l, act{puts: []string{"a", some(100)}})
}

func TestLosses(t *testing.T) {
	for what, p := range map[string]play{
		"just enough":          {shape: kv.Shape{Log: 14, Pages: 20, Frames: 10}, acts: wordy()},
		"more":                 {shape: kv.Shape{Log: 60, Pages: 60, Frames: 16}, acts: wordy()},
		"two maps":             {shape: kv.Shape{Log: 40, Pages: 1930, Frames: 10}, acts: wordy()},
		"tall":                 {shape: kv.Shape{Log: 90, Pages: 60, Frames: 40}, acts: tall()},
		"tall, in a short log": {shape: kv.Shape{Log: 24, Pages: 60, Frames: 24}, acts: checkpointed(tall())},
		"nothing":              {shape: kv.Shape{Log: 2, Pages: 4, Frames: 8}, acts: []act{{checkpoint: true}, {}, {puts: []string{"a", "x"}}, {checkpoint: true}, {deletes: []string{"a"}}}},
		"many epochs":          {shape: kv.Shape{Log: 14, Pages: 20, Frames: 10}, acts: checkpointed(wordy()), epoch: 251},
		"great epochs":         {shape: kv.Shape{Log: 14, Pages: 20, Frames: 10}, acts: checkpointed(wordy()), epoch: 1<<24 - 4},
	} {
		t.Run(what, func(t *testing.T) {
			t.Parallel()
			d := dice(len(what))
			p.cut(t, &d)
		})
	}
}

// A Format over a store, of which nothing is kept, has not been; till then the older one stands, and what was committed to it. One that is cut behind its first Sync leaves some of both, or none, but ends each call.
func TestFormatThatIsCutOverAStore(t *testing.T) {
	g := kv.Shape{Log: 10, Pages: 30, Frames: 12}
	all := mapOf("a", "x", "b", some(400), "c", some(30))
	for _, n := range []int{0, 1, 5, 10, 11, 12, 13, 14, 15} { // the log's writes, two pages, a Sync, the master, a Sync
		s, d := format(t, g)
		commit(t, s, "a", "x", "b", some(400))
		want(t, "Checkpoint", s.Checkpoint(), api.OK)
		commit(t, s, "c", some(30))
		d.Cut(n)
		if n == 15 {
			_, e := kv.Format(d, g)
			want(t, "Format", e, api.OK)
			wantMap(t, open(t, lost(t, d), 12), nil)
			continue
		}
		wantNoFormat(t, d, g, api.ErrDown)
		if n < 13 {
			wantMap(t, open(t, lost(t, d), 12), all)
			continue
		}
		x := lost(t, d)
		if s, e := kv.Open(x, 12); e == api.OK {
			s.Scan("", "", 99)
			s.Check()
		}
		s, e := kv.Format(x, g) // and it can be made anew
		want(t, "Format", e, api.OK)
		wantMap(t, s, nil)
	}
}

// checkpointed has a checkpoint behind each transaction.
func checkpointed(l []act) []act {
	var m []act
	for _, a := range l {
		m = append(m, a)
		if !a.checkpoint {
			m = append(m, act{checkpoint: true})
		}
	}
	return m
}

// Losses one behind the other: of each store that is opened a few transactions, then a cut anywhere.
func TestManyLosses(t *testing.T) {
	t.Parallel()
	for round := range 18 {
		d := dice(round)
		p := play{shape: kv.Shape{Log: 20 + round, Pages: 80, Frames: 16 + round%9}}
		x := p.fresh(t)
		s, e := kv.Format(x, p.shape)
		want(t, "Format", e, api.OK)
		o := outcome{formatted: true, sure: map[string]string{}}
		for range 60 {
			x.Cut(d.below(40))
			o = p.some(t, &d, s, o)
			for { // till an Open is not cut
				l := tears(&d, len(x.Pending()))
				x = p.lose(t, x, l[d.below(len(l))])
				if d.below(3) == 0 {
					x.Cut(d.below(9))
				}
				if s, e = kv.Open(x, p.shape.Frames); e != api.ErrDown {
					break
				}
			}
			want(t, "Open", e, api.OK)
			x = lost(t, x) // without a Cut
			s, o.sure = p.wantOutcome(t, x, o)
			o.maybe = nil
		}
	}
}

// some makes transactions of a few keys, and checkpoints, till the power goes off.
func (p play) some(t *testing.T, d *dice, s *kv.Store, o outcome) outcome {
	t.Helper()
	for range 30 {
		if d.below(6) == 0 {
			if s.Checkpoint() != api.OK {
				return o
			}
			continue
		}
		a := act{}
		for range 1 + d.below(3) {
			k := strconv.Itoa(d.below(30))
			if _, ok := o.sure[k]; ok && d.below(3) == 0 && !slices.Contains(a.deletes, k) {
				a.deletes = append(a.deletes, k)
				continue
			}
			a.puts = append(a.puts, long(k)[:1+d.below(40)], some(d.below(300)))
		}
		want(t, "Begin", s.Begin(), api.OK)
		maybe := a.after(o.sure)
		if !p.asFarAsRoom(t, s, a) {
			if s.Running() {
				want(t, "Abort", s.Abort(), api.OK)
			}
			continue
		}
		switch e := s.Commit(); e {
		case api.OK:
			o.sure = maybe
		case api.ErrDown:
			o.maybe = maybe
			return o
		case api.ErrFull, api.ErrLogFull:
			if s.Checkpoint() != api.OK {
				return o
			}
		default:
			t.Fatalf("Commit: error %d", e)
		}
	}
	return o
}

// asFarAsRoom carries out changes; false: one was refused.
func (p play) asFarAsRoom(t *testing.T, s *kv.Store, a act) bool {
	t.Helper()
	for i := 0; i < len(a.puts); i += 2 {
		switch e := s.Put(a.puts[i], []byte(a.puts[i+1])); e {
		case api.OK:
		case api.ErrDown, api.ErrFull:
			return false
		default:
			t.Fatalf("Put: error %d", e)
		}
	}
	for _, k := range a.deletes {
		switch e := s.Delete(k); e {
		case api.OK:
		case api.ErrDown, api.ErrFull:
			return false
		default:
			t.Fatalf("Delete: error %d", e)
		}
	}
	return true
}
