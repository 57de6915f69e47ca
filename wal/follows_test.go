package wal_test

import (
	"bytes"
	"hash/crc32"
	"slices"
	"testing"

	"tabulary/api"
	"tabulary/disk"
	"tabulary/wal"
)

// dice throws the same numbers each time.
type dice uint64

func (d *dice) throw() uint64 {
	*d = *d*6364136223846793005 + 1442695040888963407
	return uint64(*d>>32)<<32 ^ uint64(*d>>16)
}

func (d *dice) below(n int) int { return int(d.throw()>>33) % n }

func (d *dice) bytes(n int) []byte {
	b := make([]byte, n)
	for i := range b {
		b[i] = byte(d.throw() >> 40)
	}
	return b
}

// record is mostly a short one.
func (d *dice) record() []byte {
	return d.bytes(d.below([]int{1, 4, 60, 230, 240, 700}[d.below(6)]))
}

func (d *dice) group() [][]byte {
	var g [][]byte
	for range 1 + d.below(3) {
		g = append(g, d.record())
	}
	return g
}

// loss keeps, loses and tears at random.
func (d *dice) loss(waiting int) api.Loss {
	l := api.Loss{Torn: -1}
	always := d.below(3) == 0
	for range waiting {
		l.Kept = append(l.Kept, always || d.below(2) == 0)
	}
	if waiting > 0 && d.below(3) > 0 {
		l.Torn, l.At = d.below(waiting), d.below(257)
		if all := places(); d.below(2) == 0 {
			l.At = all[d.below(len(all))]
		}
	}
	return l
}

// places are where a write is torn: at and around each part of a sector, and of a piece's first bytes.
func places() []int {
	return []int{0, 1, 3, 4, 5, 7, 8, 9, 10, 11, 13, 14, 15, 17, 100, 242, 243, 244, 245, 247, 248, 249, 251, 252, 253, 255, 256}
}

// takeUint reads a number from the beginning on.
func takeUint(b []byte) (n int, left []byte, ok bool) {
	for i, c := range b {
		n += int(c%128) << (7 * i)
		if c < 128 {
			return n, b[i+1:], true
		}
		if i == 4 {
			break
		}
	}
	return 0, nil, false
}

// takeGroup reads records, without asking whether what is read is put as it should be.
func takeGroup(b []byte) (group [][]byte, ok bool) {
	n, b, ok := takeUint(b)
	for range n {
		var length int
		length, b, ok = takeUint(b)
		if !ok || length > len(b) {
			return nil, false
		}
		group, b = append(group, b[:length]), b[length:]
	}
	return group, ok && len(group) > 0
}

// groupAt is the group whose sectors, as the words lay them, are those that are there from the sector at on.
func groupAt(image [][]byte, epoch, at int) [][]byte {
	var all []byte
	for _, s := range image[at:] {
		all = append(all, s[10:min(10+int(s[9]), 243)]...)
		if len(all) < 4 {
			return nil
		}
		group, ok := takeGroup(all[4:])
		if !ok {
			continue
		}
		need := sectorsByWords(epoch, at, group)
		if at+len(need) <= len(image) && sameGroup(need, image[at:at+len(need)]) {
			return group
		}
	}
	return nil
}

// standByWords are the groups that stand in a log's sectors.
func standByWords(image [][]byte, epoch int) [][][]byte {
	var groups [][][]byte
	for at := 0; at < len(image); at = len(allByWords(epoch, groups)) {
		g := groupAt(image, epoch, at)
		if g == nil {
			break
		}
		groups = append(groups, g)
	}
	return groups
}

func imageOf(t *testing.T, d *disk.Disk, from, count int) [][]byte {
	t.Helper()
	var l [][]byte
	for i := range count {
		s, e := d.Read(from + i)
		if e != api.OK {
			t.Fatalf("Read: error %d", e)
		}
		l = append(l, s)
	}
	return l
}

// P8.1, by the chapter's words

// broken are sectors of groups, some of whose parts are others.
func (d *dice) broken(n int) [][]byte {
	var image [][]byte
	epoch := 5
	for len(image) < n {
		b := bytesByWords(d.group())
		length := len(b)
		switch d.below(12) {
		case 0:
			length += d.below(5) - 2
		case 1:
			b[0] = byte(d.below(4))
		case 2:
			b[d.below(len(b))] ^= 1 << d.below(8)
		case 3:
			b = append(b, 0)
			length += d.below(2)
		case 4:
			b = b[:len(b)-1]
		case 5:
			epoch = 4 + d.below(3)
		}
		image = append(image, layout(epoch, len(image), fourAhead(length, b))...)
		epoch = 5
		if i := d.below(len(image)); d.below(6) == 0 {
			s := image[i]
			piece := append(slices.Clone(s[10:10+int(s[9])]), make([]byte, 233)...)
			image[i] = sectorByWords(markByWords(5, i-d.below(2)), byte(1+d.below(3)), piece[:d.below(234)])
		}
	}
	return image[:n]
}

func TestOpenByTheChaptersWords(t *testing.T) {
	d, told := dice(8), map[int]int{}
	for range 20000 {
		n := 1 + d.below(8)
		image := d.broken(n)
		if d.below(8) == 0 {
			image[d.below(n)] = make([]byte, 256)
		}
		groups := standByWords(image, 5)
		l := open(t, laid(t, n+2, 1, image), 1, n, 5)
		used := len(allByWords(5, groups))
		wantLog(t, l, groups, 0, used, n-used)
		told[len(groups)]++
	}
	for n := range 5 {
		if told[n] < 200 {
			t.Errorf("%d groups stand %d times: too few to tell", n, told[n])
		}
	}
}

// P8.1 to P8.5, by the chapter's words

// model is a log, and its disk, by the words.
type model struct {
	epoch   int
	closed  bool
	groups  [][][]byte
	waiting [][]byte
	image   [][]byte
	steps   int // that the power lasts; below 0: it is not cut
}

func (m *model) used() int { return len(allByWords(m.epoch, m.groups)) }

func (m *model) begin(epoch int) api.Errno {
	if epoch <= m.epoch || epoch > greatest {
		return api.ErrInvalid
	}
	m.epoch, m.closed, m.groups, m.waiting = epoch, false, nil, nil
	return api.OK
}

func (m *model) put(r []byte) api.Errno {
	if m.closed {
		return api.ErrState
	}
	if len(r) > 4096 {
		return api.ErrBig
	}
	all := append(slices.Clone(m.waiting), slices.Clone(r))
	if len(sectorsByWords(1, 0, all)) > len(m.image)-m.used() {
		return api.ErrLogFull
	}
	m.waiting = all
	return api.OK
}

// step tells whether the power is on for one.
func (m *model) step() bool {
	if m.steps == 0 {
		return false
	}
	m.steps--
	return true
}

func (m *model) commit() api.Errno {
	if m.closed {
		return api.ErrState
	}
	if len(m.waiting) == 0 {
		return api.OK
	}
	group, at := m.waiting, m.used()
	m.waiting = nil
	for i, s := range sectorsByWords(m.epoch, at, group) {
		if !m.step() {
			m.closed = true
			return api.ErrDown
		}
		m.image[at+i] = s
	}
	if !m.step() {
		m.closed = true
		return api.ErrDown
	}
	m.groups = append(m.groups, group)
	return api.OK
}

// wantAsModel holds all that a log tells against the model.
func wantAsModel(t *testing.T, l *wal.Log, m *model) {
	t.Helper()
	wantLog(t, l, m.groups, len(m.waiting), m.used(), len(m.image)-m.used())
}

// turn is one call, of the log and of the model; it tells which refusal there was.
func turn(t *testing.T, d *dice, l *wal.Log, m *model, on *disk.Disk) api.Errno {
	t.Helper()
	var e, need api.Errno
	switch k := d.below(20); {
	case k < 11:
		r := d.record()
		if d.below(20) == 0 {
			r = d.bytes(4090 + d.below(12))
		}
		e, need = l.Append(r), m.put(r)
	case k < 16:
		e, need = l.Commit(), m.commit()
	case k < 17:
		if n := l.Drop(); n != len(m.waiting) {
			t.Fatalf("Drop: %d, not %d", n, len(m.waiting))
		}
		m.waiting = nil
	case k < 19:
		epoch := m.epoch - 1 + d.below(5)
		e, need = l.Begin(epoch), m.begin(epoch)
	case m.steps < 0:
		m.steps = d.below(6)
		on.Cut(m.steps)
	}
	want(t, "a call", e, need)
	wantAsModel(t, l, m)
	return e
}

func TestMixedCallsByTheChaptersWords(t *testing.T) {
	d, told := dice(88), map[api.Errno]int{}
	for range 600 {
		n, from := 1+d.below(14), d.below(3)
		on := newDisk(t, n+4)
		m := &model{epoch: 1 + d.below(300), closed: true, image: imageOf(t, on, from, n), steps: -1}
		l := open(t, on, from, n, m.epoch)
		for range 60 {
			told[turn(t, &d, l, m, on)]++
			if m.steps != 0 && !sameGroup(imageOf(t, on, from, n), m.image) {
				t.Fatal("the log's sectors are others")
			}
			if m.steps != 0 && d.below(25) > 0 || m.steps == 0 && d.below(4) > 0 {
				continue
			}
			// A loss of power, and the log is opened anew, mostly with its own epoch.
			on, _ = on.Lose(d.loss(len(on.Pending())))
			m.image, m.steps, m.closed, m.waiting = imageOf(t, on, from, n), -1, true, nil
			if d.below(4) == 0 {
				m.epoch = max(1, m.epoch-1+d.below(3))
			}
			m.groups = standByWords(m.image, m.epoch)
			l = open(t, on, from, n, m.epoch)
			wantAsModel(t, l, m)
		}
	}
	for _, e := range []api.Errno{api.OK, api.ErrInvalid, api.ErrState, api.ErrBig, api.ErrLogFull, api.ErrDown} {
		if told[e] < 50 {
			t.Errorf("%d is told %d times: too few to tell", e, told[e])
		}
	}
}

// P8.6

// history is what was there ahead of a Commit that is cut: groups of older epochs, one epoch after the other, and of the log's own.
type history struct {
	epochs []int // the last one is the log's own
	older  [][][][]byte
	own    [][][]byte
	last   [][]byte
}

func histories() []history {
	short, long, other := texts("abc", ""), [][]byte{counted(800)}, [][]byte{bytes.Repeat([]byte("o"), 700)}
	return []history{
		{epochs: []int{2}, last: short},
		{epochs: []int{2}, last: long},
		{epochs: []int{3}, own: [][][]byte{short, {counted(300)}}, last: long},
		// The same records as in the epoch ahead: only the marks tell them apart.
		{epochs: []int{2, 3}, older: [][][][]byte{{short, long}}, own: [][][]byte{short}, last: long},
		{epochs: []int{255, 256}, older: [][][][]byte{{long}}, last: long},
		{epochs: []int{65535, 65536}, older: [][][][]byte{{short, other, short}}, own: [][][]byte{short}, last: long},
		{epochs: []int{greatest - 1, greatest}, older: [][][][]byte{{long, long}}, own: [][][]byte{short, short}, last: [][]byte{counted(300), nil}},
		{epochs: []int{2, 257, 258}, older: [][][][]byte{{long, other, short}, {other}}, own: [][][]byte{short}, last: long},
		{epochs: []int{4, 5, 7}, older: [][][][]byte{{short, short, short}, {long}}, last: [][]byte{counted(226), nil, counted(226)}},
	}
}

// made lays a history out, up to what waits for the last Commit.
func (h history) made(t *testing.T) (*wal.Log, *disk.Disk) {
	t.Helper()
	d := newDisk(t, 16)
	l := open(t, d, 3, 12, 1)
	for i, groups := range append(slices.Clone(h.older), h.own) {
		want(t, "Begin", l.Begin(h.epochs[i]), api.OK)
		for _, g := range groups {
			commit(t, l, g)
		}
	}
	appendAll(t, l, h.last)
	return l, d
}

// losses are all ways in which few writes are kept, lost or torn.
func losses(waiting int) []api.Loss {
	var l []api.Loss
	for bits := range 1 << waiting {
		var kept []bool
		for i := range waiting {
			kept = append(kept, bits>>i&1 == 1)
		}
		l = append(l, api.Loss{Kept: kept, Torn: -1})
		for i := range waiting {
			if kept[i] { // one that is torn is so whether it is kept or not
				continue
			}
			for _, at := range places() {
				l = append(l, api.Loss{Kept: kept, Torn: i, At: at})
			}
		}
	}
	return l
}

// neverBegun are epochs near those of a history, and far from them, none of which was begun.
func (h history) neverBegun() []int {
	var l []int
	last := h.epochs[len(h.epochs)-1]
	for _, e := range []int{1, last - 1, last + 1, last + 255, last + 256, last ^ 1<<8, last ^ 1<<16, greatest} {
		if e >= 1 && e <= greatest && !slices.Contains(h.epochs, e) {
			l = append(l, e)
		}
	}
	return l
}

// wantAllOrNothing opens a log behind a loss, and tells whether the group whose Commit was under way is there.
func wantAllOrNothing(t *testing.T, d *disk.Disk, epoch int, own [][][]byte, last [][]byte) bool {
	t.Helper()
	l := open(t, d, 3, 12, epoch)
	with := append(slices.Clone(own), last)
	groups, there := own, false
	if len(l.Groups()) > len(own) {
		groups, there = with, true
	}
	used := len(allByWords(epoch, groups))
	wantLog(t, l, groups, 0, used, 12-used)
	if stand := standByWords(imageOf(t, d, 3, 12), epoch); !sameGroups(stand, groups) {
		t.Fatalf("%v stand, and %v are told", stand, groups)
	}
	return there
}

func TestCommitCutAnywhere(t *testing.T) {
	for _, h := range histories() {
		epoch := h.epochs[len(h.epochs)-1]
		n := len(sectorsByWords(epoch, 0, h.last))
		there, gone := 0, 0
		for steps := range n + 2 {
			l, d := h.made(t)
			d.Cut(steps)
			e := l.Commit()
			if (e == api.OK) != (steps == n+1) || len(d.Pending()) != steps%(n+1) {
				t.Fatalf("cut behind %d of %d: error %d, %v wait", steps, n+1, e, d.Pending())
			}
			for i, x := range losses(len(d.Pending())) {
				after, _ := d.Lose(x)
				if wantAllOrNothing(t, after, epoch, h.own, h.last) {
					there++
				} else {
					gone++
				}
				if e == api.OK && !sameGroups(open(t, after, 3, 12, epoch).Groups(), append(slices.Clone(h.own), h.last)) {
					t.Fatal("what was committed is gone")
				}
				for k, never := range h.neverBegun() {
					if k == i%8 {
						wantLog(t, open(t, after, 3, 12, never), nil, 0, 0, 12)
					}
				}
			}
		}
		if there < 2 || gone < 2 {
			t.Errorf("%d are there, %d are gone: too few to tell", there, gone)
		}
	}
}

// With all writes kept, and the sync refused, the group is there; with one of them lost, or torn within, it is not.
func TestTheGroupUnderWayIsThereIfItIsWhole(t *testing.T) {
	for _, h := range histories() {
		epoch := h.epochs[len(h.epochs)-1]
		n := len(sectorsByWords(epoch, 0, h.last))
		l, d := h.made(t)
		d.Cut(n)
		want(t, "Commit", l.Commit(), api.ErrDown)
		all := make([]bool, n)
		for i := range all {
			all[i] = true
		}
		after, _ := d.Lose(api.Loss{Kept: all, Torn: -1})
		if !wantAllOrNothing(t, after, epoch, h.own, h.last) {
			t.Fatal("the group is whole, and is not there")
		}
		for i := range all {
			lost := slices.Clone(all)
			lost[i] = false
			after, _ = d.Lose(api.Loss{Kept: lost, Torn: -1})
			if wantAllOrNothing(t, after, epoch, h.own, h.last) {
				t.Fatal("the group is there, and a piece of it is lost")
			}
			for at := range 248 {
				after, _ = d.Lose(api.Loss{Kept: all, Torn: i, At: at})
				if wantAllOrNothing(t, after, epoch, h.own, h.last) {
					t.Fatalf("the group is there, and a piece of it is torn at %d", at)
				}
			}
		}
	}
}

// An epoch in which nothing was committed has nothing, and the one ahead has what it had.
func TestAnEpochThatIsOnlyBegun(t *testing.T) {
	l, d := begun(t, 12, 2)
	groups := [][][]byte{texts("a"), {counted(800)}}
	for _, g := range groups {
		commit(t, l, g)
	}
	want(t, "Begin", l.Begin(3), api.OK)
	appendAll(t, l, texts("b"))
	d.Cut(0)
	want(t, "Commit", l.Commit(), api.ErrDown)
	after, _ := d.Lose(api.Loss{Torn: -1})
	wantLog(t, open(t, after, 0, 12, 3), nil, 0, 0, 12)
	wantLog(t, open(t, after, 0, 12, 2), groups, 0, 5, 7)
}

// forge changes four bytes of b so that its sum is s: the bits that the bytes ahead leave, and those that the bytes behind need, are held against each other in their midst.
func forge(b []byte, at int, s uint32) {
	ahead, need := ^crc32.ChecksumIEEE(b[:at]), ^s
	back := func() {
		for range 8 {
			if need>>31 == 1 {
				need = (need^0xedb88320)<<1 | 1
			} else {
				need <<= 1
			}
		}
	}
	for i := len(b) - 1; i >= at+4; i-- {
		back()
		need ^= uint32(b[i])
	}
	for range 4 {
		back()
	}
	for i := range 4 {
		b[at+i] = byte((ahead ^ need) >> (8 * i))
	}
}

// recordOf is the record of a group of one that takes three full pieces, as it stands in their sectors.
func recordOf(sectors [][]byte) []byte {
	var all []byte
	for _, s := range sectors {
		all = append(all, s[10:243]...)
	}
	return all[4+1+2:]
}

// sumOf is the sum that a sector says that it has.
func sumOf(s []byte) uint32 {
	return uint32(s[244]) | uint32(s[245])<<8 | uint32(s[246])<<16 | uint32(s[247])<<24
}

// wantTornPieceRefused commits young over old, each of three pieces, one of which is torn where the sum of what is left is right.
func wantTornPieceRefused(t *testing.T, old, young []byte, piece, at int) {
	t.Helper()
	l, d := begun(t, 4, 6)
	if old != nil {
		commit(t, l, [][]byte{old})
	}
	want(t, "Begin", l.Begin(7), api.OK)
	want(t, "Append", l.Append(young), api.OK)
	d.Cut(3)
	want(t, "Commit", l.Commit(), api.ErrDown)
	after, _ := d.Lose(api.Loss{Kept: []bool{true, true, true}, Torn: piece, At: at})
	s, _ := after.Read(piece)
	if sumOf(s) != crc32.ChecksumIEEE(s[:244]) {
		t.Fatal("the sum of what is left is not right: it is not asked whether that counts")
	}
	for _, epoch := range []int{7, 6, 5, 8} {
		wantLog(t, open(t, after, 0, 4, epoch), nil, 0, 0, 4)
	}
}

func TestTornWhateverSumsAre(t *testing.T) {
	d := dice(89)
	for k := range 300 {
		piece, at := k%3, 24+d.below(220)
		old := sectorsByWords(6, 0, [][]byte{d.bytes(692)})
		young := sectorsByWords(7, 0, [][]byte{d.bytes(692)})
		mixed := append(slices.Clone(young[piece][:at]), old[piece][at:244]...)
		forge(old[piece][:244], 20, crc32.ChecksumIEEE(mixed)) // the bytes that it changes are gone where the write is torn
		wantTornPieceRefused(t, recordOf(old), recordOf(young), piece, at)
	}
}

// Over bytes 0 the sum that is left is 0.
func TestTornOverBytesNoughtWhateverSumsAre(t *testing.T) {
	d := dice(90)
	for k := range 300 {
		piece, at := k%3, 24+d.below(220)
		young := sectorsByWords(7, 0, [][]byte{d.bytes(692)})
		mixed := append(slices.Clone(young[piece][:at]), make([]byte, 244-at)...)
		forge(mixed, 20, 0)
		copy(young[piece][:at], mixed)
		wantTornPieceRefused(t, nil, recordOf(young), piece, at)
	}
}

// A disk that loses power again and again, with a new epoch behind each loss.
func TestManyLossesOfPower(t *testing.T) {
	there, gone, all := 0, 0, 0
	for seed := range 40 {
		d := dice(900 + seed)
		on, epoch := newDisk(t, 16), 1+d.below(1000)
		var own [][][]byte
		var last [][]byte
		for range 60 {
			if wantAllOrNothing(t, on, epoch, own, last) {
				there++
			} else if last != nil {
				gone++
			}
			l := open(t, on, 3, 12, epoch)
			next := epoch + 1 + d.below(3)
			for never := epoch + 1; never <= next; never++ {
				wantLog(t, open(t, on, 3, 12, never), nil, 0, 0, 12)
			}
			want(t, "Begin", l.Begin(next), api.OK)
			epoch = next
			on.Cut(d.below(16))
			own, last = commitTillTheEnd(t, &d, l)
			all += len(own)
			on, _ = on.Lose(d.loss(len(on.Pending())))
		}
	}
	if there < 100 || gone < 100 || all < 1000 {
		t.Errorf("%d are there, %d are gone, %d are committed: too few to tell", there, gone, all)
	}
}

// commitTillTheEnd commits groups until the power is off or the log is full, and tells those that were committed, and the one that was under way.
func commitTillTheEnd(t *testing.T, d *dice, l *wal.Log) (own [][][]byte, last [][]byte) {
	t.Helper()
	for {
		group := d.group()
		for _, r := range group {
			if e := l.Append(r); e == api.ErrLogFull {
				return own, nil
			} else if e != api.OK {
				t.Fatalf("Append: error %d", e)
			}
		}
		if e := l.Commit(); e == api.ErrDown {
			return own, group
		} else if e != api.OK {
			t.Fatalf("Commit: error %d", e)
		}
		own = append(own, group)
	}
}
