package wal_test

import (
	"bytes"
	"hash/crc32"
	"math"
	"slices"
	"testing"

	"tabulary/api"
	"tabulary/disk"
	"tabulary/wal"
)

// greatest is the greatest epoch.
const greatest = 1000000000

// uintByWords is chapter 3's words: groups of 7 bits, the lowest first.
func uintByWords(n int) []byte {
	var b []byte
	for n >= 128 {
		b = append(b, byte(n%128+128))
		n /= 128
	}
	return append(b, byte(n))
}

// bytesByWords is a group's records as they are put.
func bytesByWords(group [][]byte) []byte {
	b := uintByWords(len(group))
	for _, r := range group {
		b = append(b, uintByWords(len(r))...)
		b = append(b, r...)
	}
	return b
}

// fourAhead has four bytes of a number, and b behind them.
func fourAhead(n int, b []byte) []byte {
	return append([]byte{byte(n >> 24), byte(n >> 16), byte(n >> 8), byte(n)}, b...)
}

// sectorByWords is chapter 7's words, byte by byte.
func sectorByWords(mark uint64, kind byte, piece []byte) []byte {
	var eight []byte
	for i := 7; i >= 0; i-- {
		eight = append(eight, byte(mark>>(8*i)))
	}
	b := append(slices.Clone(eight), kind, byte(len(piece)))
	b = append(b, piece...)
	b = append(b, make([]byte, 244-len(b))...)
	s := crc32.ChecksumIEEE(b)
	b = append(b, byte(s), byte(s>>8), byte(s>>16), byte(s>>24))
	return append(b, eight...)
}

func markByWords(epoch, i int) uint64 { return uint64(epoch)*16777216 + uint64(i) + 1 }

// layout is what bytes stand in, from the sector i of a log on: cut into pieces, each with its mark and its kind.
func layout(epoch, i int, all []byte) [][]byte {
	var l [][]byte
	kind := byte(1)
	for len(all) > 0 {
		n := min(len(all), 233)
		l = append(l, sectorByWords(markByWords(epoch, i+len(l)), kind, all[:n]))
		all = all[n:]
		kind = 2
	}
	return l
}

// sectorsByWords are those of a group, from the sector i of a log on.
func sectorsByWords(epoch, i int, group [][]byte) [][]byte {
	b := bytesByWords(group)
	return layout(epoch, i, fourAhead(len(b), b))
}

// allByWords are the sectors of groups, one behind the other.
func allByWords(epoch int, groups [][][]byte) [][]byte {
	var l [][]byte
	for _, g := range groups {
		l = append(l, sectorsByWords(epoch, len(l), g)...)
	}
	return l
}

// counted has n bytes, none of them 0.
func counted(n int) []byte {
	b := make([]byte, n)
	for i := range b {
		b[i] = byte(i%255 + 1)
	}
	return b
}

// texts is a group of records.
func texts(l ...string) [][]byte {
	var g [][]byte
	for _, s := range l {
		g = append(g, []byte(s))
	}
	return g
}

func newDisk(t *testing.T, n int) *disk.Disk {
	t.Helper()
	d, e := disk.New(n)
	if e != api.OK {
		t.Fatalf("New(%d): error %d", n, e)
	}
	return d
}

// laid is a disk of n sectors, with some from a place on.
func laid(t *testing.T, n, from int, sectors [][]byte) *disk.Disk {
	t.Helper()
	d := newDisk(t, n)
	for i, s := range sectors {
		if e := d.Write(from+i, s); e != api.OK {
			t.Fatalf("Write: error %d", e)
		}
	}
	d.Sync()
	return d
}

func open(t *testing.T, d *disk.Disk, from, count, epoch int) *wal.Log {
	t.Helper()
	l, e := wal.Open(d, from, count, epoch)
	if e != api.OK || l == nil {
		t.Fatalf("Open(%d, %d, %d): error %d", from, count, epoch, e)
	}
	return l
}

// begun is a log of n sectors, which are all that its disk has.
func begun(t *testing.T, n, epoch int) (*wal.Log, *disk.Disk) {
	t.Helper()
	d := newDisk(t, n)
	l := open(t, d, 0, n, 1)
	want(t, "Begin", l.Begin(epoch), api.OK)
	return l, d
}

func want(t *testing.T, call string, e, need api.Errno) {
	t.Helper()
	if e != need {
		t.Fatalf("%s: error %d, not %d", call, e, need)
	}
}

func wantNoLog(t *testing.T, d *disk.Disk, from, count, epoch int, need api.Errno) {
	t.Helper()
	if l, e := wal.Open(d, from, count, epoch); e != need || l != nil {
		t.Fatalf("Open(%d, %d, %d): %v, error %d, not %d", from, count, epoch, l, e, need)
	}
}

func sameGroup(a, b [][]byte) bool { return slices.EqualFunc(a, b, bytes.Equal) }

func sameGroups(a, b [][][]byte) bool { return slices.EqualFunc(a, b, sameGroup) }

// wantLog asks all that a log tells.
func wantLog(t *testing.T, l *wal.Log, groups [][][]byte, waiting, used, room int) {
	t.Helper()
	if g := l.Groups(); !sameGroups(g, groups) {
		t.Fatalf("Groups: %v, not %v", g, groups)
	}
	if l.Waiting() != waiting || l.Used() != used || l.Room() != room {
		t.Fatalf("%d wait, %d used, %d left; not %d, %d, %d", l.Waiting(), l.Used(), l.Room(), waiting, used, room)
	}
}

// wantStand asks which groups stand in the sectors that a log of n sectors has; those that are not handed in are of bytes 0.
func wantStand(t *testing.T, n, epoch int, sectors [][]byte, groups [][][]byte) {
	t.Helper()
	used := len(allByWords(epoch, groups))
	for _, from := range []int{0, 3} {
		d := laid(t, max(n, len(sectors))+3, from, sectors)
		steps := d.Steps()
		l := open(t, d, from, n, epoch)
		wantLog(t, l, groups, 0, used, n-used)
		wantClosed(t, l)
		if d.Steps() != steps || len(d.Pending()) != 0 {
			t.Fatal("Open writes")
		}
	}
}

func wantClosed(t *testing.T, l *wal.Log) {
	t.Helper()
	want(t, "Append of a closed log", l.Append([]byte("x")), api.ErrState)
	want(t, "Append of a closed log", l.Append(nil), api.ErrState)
	want(t, "Append of a closed log", l.Append(make([]byte, 4097)), api.ErrState)
	want(t, "Commit of a closed log", l.Commit(), api.ErrState)
	if n := l.Drop(); n != 0 || l.Waiting() != 0 {
		t.Fatalf("%d waited in a closed log", n)
	}
}

// wantDisk asks what all sectors of a disk have: those that are not handed in are of bytes 0.
func wantDisk(t *testing.T, d *disk.Disk, from int, sectors [][]byte) {
	t.Helper()
	for i := range d.Size() {
		need := make([]byte, 256)
		if i >= from && i < from+len(sectors) {
			need = sectors[i-from]
		}
		if s, e := d.Read(i); e != api.OK || !bytes.Equal(s, need) {
			t.Fatalf("sector %d (error %d):\n%v, not\n%v", i, e, s, need)
		}
	}
}

func appendAll(t *testing.T, l *wal.Log, group [][]byte) {
	t.Helper()
	for i, r := range group {
		want(t, "Append", l.Append(r), api.OK)
		if l.Waiting() != i+1 {
			t.Fatalf("%d wait, not %d", l.Waiting(), i+1)
		}
	}
}

func commit(t *testing.T, l *wal.Log, group [][]byte) {
	t.Helper()
	appendAll(t, l, group)
	want(t, "Commit", l.Commit(), api.OK)
}

// P8.1

func TestExample(t *testing.T) {
	d := newDisk(t, 4)
	l := open(t, d, 0, 4, 1)
	wantLog(t, l, nil, 0, 0, 4)
	want(t, "Append", l.Append([]byte("abc")), api.ErrState)
	want(t, "Begin", l.Begin(2), api.OK)
	want(t, "Append", l.Append([]byte("abc")), api.OK)
	want(t, "Append", l.Append(nil), api.OK)
	wantLog(t, l, nil, 2, 0, 4)
	if d.Steps() != 0 {
		t.Fatalf("%d steps ahead of Commit", d.Steps())
	}
	want(t, "Commit", l.Commit(), api.OK)
	if d.Steps() != 2 || len(d.Pending()) != 0 {
		t.Fatalf("Commit: %d steps", d.Steps())
	}
	wantLog(t, l, [][][]byte{texts("abc", "")}, 0, 1, 3)
	wantLog(t, open(t, d, 0, 4, 2), [][][]byte{texts("abc", "")}, 0, 1, 3)
}

func TestOpenOfNoDisk(t *testing.T) {
	for _, d := range []*disk.Disk{nil, {}} {
		for _, from := range []int{0, -1, 1, math.MinInt, math.MaxInt} {
			for _, count := range []int{1, 0, 10001, math.MinInt, math.MaxInt} {
				for _, epoch := range []int{1, 0, math.MinInt, math.MaxInt} {
					wantNoLog(t, d, from, count, epoch, api.ErrNil)
				}
			}
		}
	}
}

func TestOpenOfWhatIsNotOnTheDisk(t *testing.T) {
	d := newDisk(t, 8)
	for from := range 8 {
		for count := 1; count <= 8-from; count++ {
			wantLog(t, open(t, d, from, count, 1), nil, 0, 0, count)
		}
		for _, count := range []int{9 - from, 10 - from, 9, 4096, 9999, 10000, 10001, math.MaxInt32, math.MaxInt - 7, math.MaxInt, 0, -1, -8, math.MinInt32, math.MinInt} {
			wantNoLog(t, d, from, count, 1, api.ErrInvalid)
		}
	}
	for _, from := range []int{-1, -2, -8, math.MinInt32, math.MinInt, 8, 9, math.MaxInt32, math.MaxInt - 1, math.MaxInt} {
		for _, count := range []int{1, 2, 8, 10000, math.MaxInt, 0, -1, math.MinInt} {
			wantNoLog(t, d, from, count, 1, api.ErrInvalid)
		}
	}
}

func TestOpenOfTheGreatestDisk(t *testing.T) {
	d := newDisk(t, 4096)
	wantLog(t, open(t, d, 0, 4096, 1), nil, 0, 0, 4096)
	wantLog(t, open(t, d, 4095, 1, 1), nil, 0, 0, 1)
	for _, count := range []int{4097, 9999, 10000, 10001} {
		wantNoLog(t, d, 0, count, 1, api.ErrInvalid)
	}
	wantNoLog(t, d, 4096, 1, 1, api.ErrInvalid)
	wantNoLog(t, d, 1, 4096, 1, api.ErrInvalid)
}

func TestOpenOfEpochs(t *testing.T) {
	d := newDisk(t, 2)
	for _, epoch := range []int{1, 2, greatest - 1, greatest} {
		wantLog(t, open(t, d, 0, 2, epoch), nil, 0, 0, 2)
		wantStand(t, 2, epoch, sectorsByWords(epoch, 0, texts("a")), [][][]byte{texts("a")})
	}
	for _, epoch := range []int{0, -1, -2, math.MinInt32, math.MinInt, greatest + 1, math.MaxInt32, math.MaxInt} {
		wantNoLog(t, d, 0, 2, epoch, api.ErrInvalid)
		wantNoLog(t, d, -1, 0, epoch, api.ErrInvalid)
	}
}

func TestOpenWithoutPower(t *testing.T) {
	d := laid(t, 4, 0, sectorsByWords(1, 0, texts("a")))
	d.Cut(0)
	wantNoLog(t, d, 0, 4, 1, api.ErrDown)
	wantNoLog(t, d, 3, 1, 2, api.ErrDown)
	wantNoLog(t, d, -1, 4, 1, api.ErrInvalid)
	wantNoLog(t, d, 0, 5, 1, api.ErrInvalid)
	wantNoLog(t, d, 0, 0, 1, api.ErrInvalid)
	wantNoLog(t, d, 0, 4, 0, api.ErrInvalid)
	wantNoLog(t, d, 0, 4, greatest+1, api.ErrInvalid)
}

func TestOpenReadsWhatWaits(t *testing.T) {
	d := newDisk(t, 3)
	for i, s := range sectorsByWords(7, 0, [][]byte{counted(300)}) {
		d.Write(i, s)
	}
	wantLog(t, open(t, d, 0, 3, 7), [][][]byte{{counted(300)}}, 0, 2, 1)
	if len(d.Pending()) != 2 {
		t.Fatal("Open syncs")
	}
}

// several are groups of one piece, of some, with no bytes and with many records.
func several() [][][]byte {
	many := make([][]byte, 200)
	for i := range many {
		many[i] = counted(i % 5)
	}
	return [][][]byte{texts("abc", ""), {counted(300)}, {nil}, {counted(4096), counted(4096)}, many, texts("", "", "z")}
}

func TestOpenTellsTheGroupsThatStand(t *testing.T) {
	for _, epoch := range []int{1, 2, 255, 256, 65536, greatest} {
		groups := several()
		all := allByWords(epoch, groups)
		for n := range len(groups) + 1 {
			part := allByWords(epoch, groups[:n])
			wantStand(t, len(all)+4, epoch, part, groups[:n])
		}
		wantStand(t, len(all), epoch, all, groups)
	}
}

// What does not wholly stand in the log's sectors is no group of it.
func TestOpenOfFewerSectors(t *testing.T) {
	groups := several()
	all := allByWords(9, groups)
	for count := 1; count <= len(all); count++ {
		n := 0
		for n < len(groups) && len(allByWords(9, groups[:n+1])) <= count {
			n++
		}
		wantStand(t, count, 9, all, groups[:n])
	}
}

func TestOpenElsewhere(t *testing.T) {
	d := laid(t, 8, 2, allByWords(9, [][][]byte{texts("a"), texts("b"), texts("c")}))
	wantLog(t, open(t, d, 2, 6, 9), [][][]byte{texts("a"), texts("b"), texts("c")}, 0, 3, 3)
	for _, from := range []int{0, 1, 3, 4, 5} {
		wantLog(t, open(t, d, from, 3, 9), nil, 0, 0, 3)
	}
}

// set is a list of sectors with one that is another one.
func set(l [][]byte, i int, s []byte) [][]byte {
	l = slices.Clone(l)
	l[i] = s
	return l
}

// wantUpTo asks about three groups, of one sector, of four and of one, of which a sector is another one: those ahead of it stand.
func wantUpTo(t *testing.T, i int, s []byte) {
	t.Helper()
	groups := three()
	n := 0
	for len(allByWords(5, groups[:n+1])) <= i {
		n++
	}
	wantStand(t, 8, 5, set(allByWords(5, groups), i, s), groups[:n])
}

func three() [][][]byte { return [][][]byte{texts("abc", ""), {counted(800)}, texts("z")} }

func TestOpenOfAnotherMark(t *testing.T) {
	all := allByWords(5, three())
	wantStand(t, 8, 5, all, three())
	for i, s := range all {
		kind, piece := s[8], s[10:10+int(s[9])]
		right := markByWords(5, i)
		wantStand(t, 8, 5, set(all, i, sectorByWords(right, kind, piece)), three())
		for _, epoch := range []int{1, 4, 6, 5 + 1<<8, 5 + 1<<16, greatest, 0} {
			wantUpTo(t, i, sectorByWords(markByWords(epoch, i), kind, piece))
		}
		for _, mark := range []uint64{right - 1, right + 1, right + 256, right ^ 1<<23, right | 1<<63, uint64(i) + 1, 5<<24 + 9999, 5<<32 + uint64(i) + 1} {
			wantUpTo(t, i, sectorByWords(mark, kind, piece))
		}
	}
}

func TestOpenOfAnotherKind(t *testing.T) {
	for i, s := range allByWords(5, three()) {
		for kind := range 256 {
			if byte(kind) != s[8] {
				wantUpTo(t, i, sectorByWords(markByWords(5, i), byte(kind), s[10:10+int(s[9])]))
			}
		}
	}
}

func TestOpenOfASectorThatIsNotThere(t *testing.T) {
	for i, s := range allByWords(5, three()) {
		wantUpTo(t, i, make([]byte, 256))
		wantUpTo(t, i, bytes.Repeat([]byte{255}, 256))
		for _, at := range []int{0, 4, 7, 8, 9, 10, 13, 14, 100, 243, 244, 247, 248, 252, 255} {
			wrong := slices.Clone(s)
			wrong[at] ^= 64
			wantUpTo(t, i, wrong)
		}
	}
}

func TestOpenOfAnotherLength(t *testing.T) {
	for i, s := range allByWords(5, three()) {
		piece := s[10 : 10+int(s[9])]
		for n := range 234 {
			if n != len(piece) {
				wantUpTo(t, i, sectorByWords(markByWords(5, i), s[8], append(slices.Clone(piece), make([]byte, 233)...)[:n]))
			}
		}
	}
}

// piecesOf are sectors of pieces that are handed in as they are.
func piecesOf(epoch int, pieces ...[]byte) [][]byte {
	var l [][]byte
	for i, p := range pieces {
		kind := byte(2)
		if i == 0 {
			kind = 1
		}
		l = append(l, sectorByWords(markByWords(epoch, i), kind, p))
	}
	return l
}

// Pieces whose bytes are a group's, but that are cut at other places.
func TestOpenOfPiecesThatAreCutElsewhere(t *testing.T) {
	group := [][]byte{counted(600)}
	b := bytesByWords(group)
	all := fourAhead(len(b), b)
	wantStand(t, 8, 5, piecesOf(5, all[:233], all[233:466], all[466:]), [][][]byte{group})
	wantStand(t, 8, 5, piecesOf(5, all[:232], all[232:465], all[465:]), nil)
	wantStand(t, 8, 5, piecesOf(5, all[:233], all[233:465], all[465:]), nil)
	wantStand(t, 8, 5, piecesOf(5, all[:233], all[233:400], all[400:]), nil)
	wantStand(t, 8, 5, piecesOf(5, all[:233], nil, all[233:466], all[466:]), nil)
	wantStand(t, 8, 5, piecesOf(5, nil, all[:233], all[233:466], all[466:]), nil)
	wantStand(t, 8, 5, piecesOf(5, all[:4], all[4:237], all[237:470], all[470:]), nil)
	small := fourAhead(3, bytesByWords(texts("x")))
	wantStand(t, 8, 5, piecesOf(5, small), [][][]byte{texts("x")})
	for at := range len(small) {
		wantStand(t, 8, 5, piecesOf(5, small[:at], small[at:]), nil)
	}
	wantStand(t, 8, 5, piecesOf(5, small, nil), [][][]byte{texts("x")}) // one that is empty is not of the group, and begins none
}

func TestOpenOfAnotherNumberOfBytes(t *testing.T) {
	for _, group := range [][][]byte{texts("x"), texts("", "abc"), {counted(226)}, {counted(227)}, {counted(700), counted(9)}} {
		b := bytesByWords(group)
		wantStand(t, 8, 5, layout(5, 0, fourAhead(len(b), b)), [][][]byte{group})
		for _, n := range []int{0, 1, 3, 4, len(b) - 2, len(b) - 1, len(b) + 1, len(b) + 4, len(b) + 233, 1 << 8, 1 << 16, 1 << 24, 1 << 31, math.MaxUint32, math.MaxUint32 - 3, math.MaxUint32 - 4, len(b)<<24 | len(b)<<8} {
			if n != len(b) {
				wantStand(t, 8, 5, layout(5, 0, fourAhead(n, b)), nil)
			}
		}
	}
	for n := range 4 { // not even the number is whole
		wantStand(t, 8, 5, piecesOf(5, make([]byte, n)), nil)
		wantStand(t, 8, 5, piecesOf(5, counted(n)), nil)
	}
}

// The pieces say more bytes than the log has sectors for, and all of these are full.
func TestOpenOfAGroupWithoutAnEnd(t *testing.T) {
	for _, n := range []int{8*233 - 4 + 1, 9 * 233, math.MaxUint32} {
		wantStand(t, 8, 5, layout(5, 0, fourAhead(n, counted(8*233-4))), nil)
	}
	group := [][]byte{counted(8*233 - 4 - 1 - 2)}
	wantStand(t, 8, 5, sectorsByWords(5, 0, group), [][][]byte{group})
}

func TestOpenOfOtherBytes(t *testing.T) {
	for _, b := range [][]byte{
		nil,              // not even a number
		{0},              // no record
		{0, 0},           // a byte behind no record
		{1},              // no record where one is told
		{1, 1},           // it ends within
		{1, 3, 'a', 'b'}, // it ends within
		{1, 1, 'a', 'b'}, // a byte behind it
		{1, 0, 0},        // a byte behind it
		{2, 1, 'a'},      // the second one is not there
		{2, 0},           // the second one is not there
		{2, 0, 1},        // the second one ends within
		{2, 0, 0, 0},     // a third one
		{128},            // the number ends within
		{129, 0, 0},      // 1 in more bytes than it needs
		{1, 128, 0},      // 0 in more bytes than it needs
		{1, 129},         // the length ends within
		{255, 255, 255, 255, 255, 255, 255, 255, 255, 1, 0},           // the greatest number of records
		{255, 255, 255, 255, 255, 255, 255, 255, 255, 2, 0},           // one that is above all
		{255, 255, 255, 255, 7, 0},                                    // 2^31 - 1 records
		{1, 255, 255, 255, 255, 255, 255, 255, 255, 255, 1, 'a'},      // the greatest length
		{1, 255, 255, 255, 255, 255, 255, 255, 255, 127, 'a'},         // the greatest length of an int
		{1, 128, 128, 128, 128, 128, 128, 128, 128, 128, 1, 'a'},      // 2^63
		{1, 255, 255, 255, 255, 255, 255, 255, 255, 255, 255, 1, 'a'}, // too many bytes
	} {
		wantStand(t, 8, 5, layout(5, 0, fourAhead(len(b), b)), nil)
		behind := sectorsByWords(5, 0, texts("ahead"))
		behind = append(behind, layout(5, 1, fourAhead(len(b), b))...)
		behind = append(behind, sectorsByWords(5, 2, texts("behind"))...)
		wantStand(t, 8, 5, behind, [][][]byte{texts("ahead")})
	}
	for _, group := range [][][]byte{texts(""), texts("a"), texts("", ""), {counted(127)}, {counted(128)}} {
		b := bytesByWords(group)
		wantStand(t, 8, 5, layout(5, 0, fourAhead(len(b), b)), [][][]byte{group})
		for n := range len(b) {
			wantStand(t, 8, 5, layout(5, 0, fourAhead(n, b[:n])), nil)
		}
		more := append(slices.Clone(b), 0)
		wantStand(t, 8, 5, layout(5, 0, fourAhead(len(more), more)), nil)
	}
}

// The chapter's words set no bound for a record that stands.
func TestOpenOfAGreatRecord(t *testing.T) {
	for _, n := range []int{4096, 4097, 16383, 16384, 40000} {
		group := [][]byte{counted(n), counted(3)}
		wantStand(t, 180, 5, sectorsByWords(5, 0, group), [][][]byte{group})
	}
}

func TestOpenStopsAtTheFirstThatIsNone(t *testing.T) {
	all := append(sectorsByWords(5, 0, texts("a")), make([]byte, 256))
	wantStand(t, 8, 5, append(all, sectorsByWords(5, 2, texts("c"))...), [][][]byte{texts("a")})
	wantStand(t, 8, 5, append([][]byte{make([]byte, 256)}, sectorsByWords(5, 1, texts("b"))...), nil)
	// A group that has lost its last piece takes nothing of the next one.
	two := append(sectorsByWords(5, 0, [][]byte{counted(300)})[:1], sectorsByWords(5, 1, texts("b"))...)
	wantStand(t, 8, 5, two, nil)
	// The last piece of another one, in its place, is as good as its own where it is as long.
	other := sectorsByWords(5, 0, [][]byte{make([]byte, 300)})
	mixed := append(sectorsByWords(5, 0, [][]byte{counted(300)})[:1], other[1])
	wantStand(t, 8, 5, mixed, [][][]byte{{append(counted(233-7), make([]byte, 300-233+7)...)}})
}

func TestOpenedLogsHaveTheirOwnState(t *testing.T) {
	l, d := begun(t, 6, 2)
	before := open(t, d, 0, 6, 2)
	commit(t, l, texts("a"))
	between := open(t, d, 0, 6, 2)
	commit(t, l, texts("b"))
	wantLog(t, before, nil, 0, 0, 6)
	wantLog(t, between, [][][]byte{texts("a")}, 0, 1, 5)
	wantLog(t, open(t, d, 0, 6, 2), [][][]byte{texts("a"), texts("b")}, 0, 2, 4)
	want(t, "Begin", between.Begin(3), api.OK)
	commit(t, between, texts("c"))
	wantLog(t, l, [][][]byte{texts("a"), texts("b")}, 0, 2, 4)
	wantLog(t, open(t, d, 0, 6, 2), nil, 0, 0, 6)
	wantLog(t, open(t, d, 0, 6, 3), [][][]byte{texts("c")}, 0, 1, 5)
}

func TestTwoLogsOnOneDisk(t *testing.T) {
	d := newDisk(t, 8)
	a, b := open(t, d, 0, 3, 1), open(t, d, 3, 5, 1)
	want(t, "Begin", a.Begin(2), api.OK)
	want(t, "Begin", b.Begin(2), api.OK)
	commit(t, a, texts("a"))
	commit(t, b, [][]byte{counted(300)})
	commit(t, a, texts("c"))
	wantLog(t, open(t, d, 0, 3, 2), [][][]byte{texts("a"), texts("c")}, 0, 2, 1)
	wantLog(t, open(t, d, 3, 5, 2), [][][]byte{{counted(300)}}, 0, 2, 3)
	wantLog(t, open(t, d, 0, 8, 2), [][][]byte{texts("a"), texts("c")}, 0, 2, 6)
}

// P8.2

func TestBeginOfNoLog(t *testing.T) {
	for _, l := range []*wal.Log{nil, {}} {
		for _, epoch := range []int{1, 2, greatest, 0, -1, greatest + 1, math.MinInt, math.MaxInt} {
			want(t, "Begin", l.Begin(epoch), api.ErrNil)
		}
		want(t, "Append", l.Append([]byte("a")), api.ErrNil)
	}
}

func TestBeginOfEpochs(t *testing.T) {
	for _, epoch := range []int{1, 2, 3, 500, greatest - 2, greatest - 1, greatest} {
		d := newDisk(t, 4)
		for _, wrong := range []int{epoch, epoch - 1, epoch - 2, 1, 0, -1, -epoch, math.MinInt32, math.MinInt, greatest + 1, greatest + 2, math.MaxInt32, math.MaxInt} {
			l := open(t, d, 0, 4, epoch)
			want(t, "Begin", l.Begin(wrong), api.ErrInvalid)
			wantClosed(t, l)
		}
		for _, right := range []int{epoch + 1, epoch + 2, greatest - 1, greatest} {
			if right <= epoch || right > greatest {
				continue
			}
			l := open(t, d, 0, 4, epoch)
			want(t, "Begin", l.Begin(right), api.OK)
			wantLog(t, l, nil, 0, 0, 4)
			want(t, "Append", l.Append(nil), api.OK)
			want(t, "Begin", l.Begin(right), api.ErrInvalid) // that is the log's epoch now
			want(t, "Begin", l.Begin(epoch), api.ErrInvalid)
			wantLog(t, l, nil, 1, 0, 4)
		}
		if d.Steps() != 0 {
			t.Fatal("Begin writes")
		}
	}
}

func TestBeginWritesNothing(t *testing.T) {
	l, d := begun(t, 6, 2)
	commit(t, l, texts("a"))
	commit(t, l, [][]byte{counted(300)})
	appendAll(t, l, texts("b", "c"))
	steps, all := d.Steps(), allByWords(2, [][][]byte{texts("a"), {counted(300)}})
	wantLog(t, l, [][][]byte{texts("a"), {counted(300)}}, 2, 3, 3)
	want(t, "Begin", l.Begin(3), api.OK)
	wantLog(t, l, nil, 0, 0, 6)
	if d.Steps() != steps || len(d.Pending()) != 0 {
		t.Fatal("Begin writes")
	}
	wantDisk(t, d, 0, all)
	want(t, "Commit", l.Commit(), api.OK) // nothing waits any more
	wantDisk(t, d, 0, all)
	if l.Drop() != 0 {
		t.Fatal("what waited does so in another epoch")
	}
}

func TestBeginThatIsRefusedChangesNothing(t *testing.T) {
	l, d := begun(t, 6, 7)
	commit(t, l, texts("a"))
	appendAll(t, l, texts("b", "c"))
	for _, epoch := range []int{7, 6, 1, 0, math.MinInt, greatest + 1, math.MaxInt} {
		want(t, "Begin", l.Begin(epoch), api.ErrInvalid)
		wantLog(t, l, [][][]byte{texts("a")}, 2, 1, 5)
	}
	want(t, "Commit", l.Commit(), api.OK)
	wantDisk(t, d, 0, allByWords(7, [][][]byte{texts("a"), texts("b", "c")}))
}

func TestBeginOverAnOlderEpochsGroups(t *testing.T) {
	l, d := begun(t, 6, 2)
	old := [][][]byte{texts("a"), {counted(300)}, texts("b")}
	for _, g := range old {
		commit(t, l, g)
	}
	o := open(t, d, 0, 6, 2)
	wantLog(t, o, old, 0, 4, 2)
	wantClosed(t, o)
	want(t, "Begin", o.Begin(3), api.OK)
	wantLog(t, o, nil, 0, 0, 6)
	wantLog(t, open(t, d, 0, 6, 2), old, 0, 4, 2) // they stand until they are written over
	commit(t, o, texts("new"))
	wantLog(t, o, [][][]byte{texts("new")}, 0, 1, 5)
	wantDisk(t, d, 0, append(sectorsByWords(3, 0, texts("new")), allByWords(2, old)[1:]...))
	wantLog(t, open(t, d, 0, 6, 3), [][][]byte{texts("new")}, 0, 1, 5)
	wantLog(t, open(t, d, 0, 6, 2), nil, 0, 0, 6)
}

func TestBeginWithoutPower(t *testing.T) {
	d := newDisk(t, 4)
	l := open(t, d, 0, 4, 1)
	d.Cut(0)
	want(t, "Begin", l.Begin(2), api.OK)
	wantLog(t, l, nil, 0, 0, 4)
	want(t, "Append", l.Append([]byte("a")), api.OK)
	want(t, "Commit", l.Commit(), api.ErrDown)
}

// P8.3

func TestAppendOfEdges(t *testing.T) {
	for _, n := range []int{0, 1, 2, 127, 128, 225, 226, 227, 232, 233, 234, 4095, 4096} {
		l, d := begun(t, 20, 2)
		want(t, "Append", l.Append(counted(n)), api.OK)
		wantLog(t, l, nil, 1, 0, 20)
		if d.Steps() != 0 {
			t.Fatal("Append writes")
		}
		want(t, "Commit", l.Commit(), api.OK)
		group := [][]byte{counted(n)}
		all := sectorsByWords(2, 0, group)
		wantDisk(t, d, 0, all)
		wantLog(t, l, [][][]byte{group}, 0, len(all), 20-len(all))
	}
	l, _ := begun(t, 4000, 2)
	for _, n := range []int{4097, 4098, 8192, 1 << 16, 1 << 20} {
		want(t, "Append", l.Append(make([]byte, n)), api.ErrBig)
		wantLog(t, l, nil, 0, 0, 4000)
	}
	long := counted(5000)
	want(t, "Append", l.Append(long[:4096]), api.OK) // what stands behind its length does not count
	wantLog(t, l, nil, 1, 0, 4000)
}

func TestAppendTellsTheErrorThatIsNamedFirst(t *testing.T) {
	for _, l := range []*wal.Log{nil, {}} {
		for _, n := range []int{0, 1, 4096, 4097, 1 << 16} {
			want(t, "Append", l.Append(make([]byte, n)), api.ErrNil)
		}
		want(t, "Append", l.Append(nil), api.ErrNil)
	}
	d := newDisk(t, 1)
	l := open(t, d, 0, 1, 1)
	want(t, "Append", l.Append(make([]byte, 4097)), api.ErrState)
	want(t, "Append", l.Append(make([]byte, 4096)), api.ErrState)
	want(t, "Append", l.Append(nil), api.ErrState)
	want(t, "Begin", l.Begin(2), api.OK)
	want(t, "Append", l.Append(make([]byte, 4097)), api.ErrBig)
	want(t, "Append", l.Append(make([]byte, 4096)), api.ErrLogFull)
	want(t, "Append", l.Append(make([]byte, 227)), api.ErrLogFull)
	want(t, "Append", l.Append(make([]byte, 226)), api.OK)
}

// justFits is a group of one record that takes all bytes of n pieces.
func justFits(n int) [][]byte {
	r := 233*n - 4 - 1
	return [][]byte{counted(r - len(uintByWords(r-2)))}
}

func TestAppendOfWhatJustFits(t *testing.T) {
	for n := 1; n <= 17; n++ {
		group := justFits(n)
		if b := bytesByWords(group); len(b)+4 != 233*n {
			t.Fatalf("%d bytes: that does not just fit", len(b))
		}
		for _, used := range []int{0, 1, 2} {
			l, d := begun(t, n+used, 2)
			var groups [][][]byte
			for range used {
				commit(t, l, texts("used"))
				groups = append(groups, texts("used"))
			}
			want(t, "Append", l.Append(counted(len(group[0])+1)), api.ErrLogFull)
			wantLog(t, l, groups, 0, used, n)
			commit(t, l, group)
			groups = append(groups, group)
			wantLog(t, l, groups, 0, n+used, 0)
			wantDisk(t, d, 0, allByWords(2, groups))
			for _, r := range [][]byte{nil, {}, counted(1), counted(4096)} {
				want(t, "Append", l.Append(r), api.ErrLogFull)
			}
			want(t, "Append", l.Append(counted(4097)), api.ErrBig)
			want(t, "Commit", l.Commit(), api.OK)
			wantLog(t, l, groups, 0, n+used, 0)
			wantLog(t, open(t, d, 0, n+used, 2), groups, 0, n+used, 0)
		}
	}
}

// One byte less than fills the room, so that one more record of no bytes fits, and no other one.
func TestAppendOfSeveralThatJustFit(t *testing.T) {
	l, d := begun(t, 2, 2)
	group := justFits(2)
	group[0] = group[0][1:]
	appendAll(t, l, group)
	want(t, "Append", l.Append([]byte("a")), api.ErrLogFull)
	wantLog(t, l, nil, 1, 0, 2)
	want(t, "Append", l.Append(nil), api.OK)
	wantLog(t, l, nil, 2, 0, 2)
	want(t, "Append", l.Append(nil), api.ErrLogFull)
	wantLog(t, l, nil, 2, 0, 2)
	want(t, "Commit", l.Commit(), api.OK)
	wantDisk(t, d, 0, sectorsByWords(2, 0, append(group, nil)))
	wantLog(t, l, [][][]byte{append(group, nil)}, 0, 2, 0)
}

// With the 128th record their number takes a byte more.
func TestAppendCountsTheNumbersOwnBytes(t *testing.T) {
	for spare := range 3 {
		l, _ := begun(t, 1, 2)
		var group [][]byte
		for range 126 {
			group = append(group, nil)
		}
		// 4 bytes ahead, 1 of the number, 126 of the records without bytes, 1 of this one's length.
		group = append(group, counted(233-4-1-126-1-spare))
		appendAll(t, l, group)
		need := api.ErrLogFull
		if spare == 2 {
			need = api.OK
		}
		want(t, "Append of the 128th", l.Append(nil), need)
	}
}

func TestAppendThatIsRefusedChangesNothing(t *testing.T) {
	l, d := begun(t, 2, 2)
	appendAll(t, l, texts("a", "b"))
	want(t, "Append", l.Append(counted(4097)), api.ErrBig)
	want(t, "Append", l.Append(counted(4096)), api.ErrLogFull)
	want(t, "Append", l.Append(counted(500)), api.ErrLogFull)
	wantLog(t, l, nil, 2, 0, 2)
	want(t, "Append", l.Append([]byte("c")), api.OK)
	want(t, "Commit", l.Commit(), api.OK)
	wantDisk(t, d, 0, sectorsByWords(2, 0, texts("a", "b", "c")))
}

func TestAppendOfManyRecords(t *testing.T) {
	for _, n := range []int{127, 128, 129, 16383, 16384, 20000} {
		l, d := begun(t, 100, 2)
		group := make([][]byte, n)
		appendAll(t, l, group)
		want(t, "Commit", l.Commit(), api.OK)
		all := sectorsByWords(2, 0, group)
		wantDisk(t, d, 0, all)
		wantLog(t, l, [][][]byte{group}, 0, len(all), 100-len(all))
		wantLog(t, open(t, d, 0, 100, 2), [][][]byte{group}, 0, len(all), 100-len(all))
	}
}

func TestAppendFillsTheGreatestLog(t *testing.T) {
	d := newDisk(t, 4096)
	l := open(t, d, 0, 4096, greatest-1)
	want(t, "Begin", l.Begin(greatest), api.OK)
	var group [][]byte
	for l.Append(counted(4096)) == api.OK {
		group = append(group, counted(4096))
	}
	if need := (4096*233 - 4 - 2) / 4098; len(group) != need {
		t.Fatalf("%d records, not %d", len(group), need)
	}
	rest := counted(4096*233 - 4 - 2 - 4098*len(group) - 2)
	want(t, "Append", l.Append(append(slices.Clone(rest), 0)), api.ErrLogFull)
	want(t, "Append", l.Append(rest), api.OK)
	want(t, "Commit", l.Commit(), api.OK)
	group = append(group, rest)
	wantDisk(t, d, 0, sectorsByWords(greatest, 0, group))
	wantLog(t, l, [][][]byte{group}, 0, 4096, 0)
	wantLog(t, open(t, d, 0, 4096, greatest), [][][]byte{group}, 0, 4096, 0)
}

func TestDrop(t *testing.T) {
	for _, l := range []*wal.Log{nil, {}} {
		if n := l.Drop(); n != 0 {
			t.Fatalf("Drop: %d", n)
		}
	}
	l, d := begun(t, 1, 2)
	if n := l.Drop(); n != 0 {
		t.Fatalf("Drop where nothing waits: %d", n)
	}
	appendAll(t, l, texts("a", "b", ""))
	if n := l.Drop(); n != 3 || l.Waiting() != 0 {
		t.Fatalf("Drop: %d, and %d wait", n, l.Waiting())
	}
	if n := l.Drop(); n != 0 {
		t.Fatalf("Drop again: %d", n)
	}
	want(t, "Commit", l.Commit(), api.OK)
	if d.Steps() != 0 {
		t.Fatal("what was dropped is written")
	}
	want(t, "Append", l.Append(counted(226)), api.OK) // the room of what was dropped is there again
	if n := l.Drop(); n != 1 {
		t.Fatalf("Drop: %d", n)
	}
	commit(t, l, texts("c"))
	wantDisk(t, d, 0, sectorsByWords(2, 0, texts("c")))
	if n := l.Drop(); n != 0 {
		t.Fatalf("Drop behind Commit: %d", n)
	}
	wantLog(t, l, [][][]byte{texts("c")}, 0, 1, 0)
}

func TestDropLeavesTheGroups(t *testing.T) {
	l, d := begun(t, 8, 2)
	commit(t, l, texts("a"))
	appendAll(t, l, [][]byte{counted(300), nil})
	if n := l.Drop(); n != 2 {
		t.Fatalf("Drop: %d", n)
	}
	wantLog(t, l, [][][]byte{texts("a")}, 0, 1, 7)
	commit(t, l, texts("b"))
	wantDisk(t, d, 0, allByWords(2, [][][]byte{texts("a"), texts("b")}))
}

func TestAppendKeepsToItsOwnMemory(t *testing.T) {
	for _, n := range []int{0, 1, 233, 4000} {
		l, d := begun(t, 60, 2)
		room := counted(4050)
		want(t, "Append", l.Append(room[:n]), api.OK)
		if !bytes.Equal(room, counted(4050)) {
			t.Fatal("Append wrote into its argument")
		}
		clear(room)
		want(t, "Append", l.Append(room[:n]), api.OK)
		copy(room, counted(4050))
		want(t, "Commit", l.Commit(), api.OK)
		group := [][]byte{counted(n), make([]byte, n)}
		wantLog(t, l, [][][]byte{group}, 0, len(sectorsByWords(2, 0, group)), 60-len(sectorsByWords(2, 0, group)))
		wantDisk(t, d, 0, sectorsByWords(2, 0, group))
		if !bytes.Equal(room, counted(4050)) {
			t.Fatal("Commit wrote into what was appended")
		}
	}
}

// P8.4

func TestCommitByteByByte(t *testing.T) {
	d := newDisk(t, 9)
	l := open(t, d, 4, 5, 0x010203)
	want(t, "Begin", l.Begin(0x01020304), api.OK)
	appendAll(t, l, texts("abc", ""))
	want(t, "Commit", l.Commit(), api.OK)
	s, _ := d.Read(4)
	mark := []byte{0, 1, 2, 3, 4, 0, 0, 1}
	if !bytes.Equal(s[:8], mark) || !bytes.Equal(s[248:], mark) {
		t.Fatalf("the mark of the sector 0: %v, %v", s[:8], s[248:])
	}
	// The kind, how long the piece is; four bytes, how many records, and each with its length.
	if need := append([]byte{1, 10, 0, 0, 0, 6, 2, 3, 'a', 'b', 'c', 0}, make([]byte, 224)...); !bytes.Equal(s[8:244], need) {
		t.Fatalf("the sector 0: %v", s)
	}
	appendAll(t, l, [][]byte{counted(300)})
	want(t, "Commit", l.Commit(), api.OK)
	first, _ := d.Read(5)
	second, _ := d.Read(6)
	if need := append([]byte{0, 1, 2, 3, 4, 0, 0, 2, 1, 233, 0, 0, 1, 47, 1, 172, 2}, counted(226)...); !bytes.Equal(first[:243], need) {
		t.Fatalf("the first piece: %v", first)
	}
	if need := append([]byte{0, 1, 2, 3, 4, 0, 0, 3, 2, 74}, counted(300)[226:]...); !bytes.Equal(second[:84], need) {
		t.Fatalf("the second piece: %v", second)
	}
	wantDisk(t, d, 4, allByWords(0x01020304, [][][]byte{texts("abc", ""), {counted(300)}}))
}

func TestCommitOfEpochs(t *testing.T) {
	for _, epoch := range []int{2, 255, 256, 65535, 65536, 1 << 24, greatest - 1, greatest} {
		l, d := begun(t, 30, epoch)
		groups := [][][]byte{texts("a"), {counted(4096)}, texts("", "b")}
		for _, g := range groups {
			commit(t, l, g)
		}
		wantDisk(t, d, 0, allByWords(epoch, groups))
		wantLog(t, open(t, d, 0, 30, epoch), groups, 0, 20, 10)
	}
}

// A mark's lowest bytes count up with the sectors.
func TestCommitFarWithinALog(t *testing.T) {
	l, d := begun(t, 600, 2)
	var groups [][][]byte
	for range 40 {
		groups = append(groups, [][]byte{counted(3000)})
		commit(t, l, groups[0])
	}
	all := allByWords(2, groups)
	if len(all) < 512 {
		t.Fatalf("%d sectors: not far enough", len(all))
	}
	wantDisk(t, d, 0, all)
	wantLog(t, open(t, d, 0, 600, 2), groups, 0, len(all), 600-len(all))
}

func TestCommitOfAFullPiece(t *testing.T) {
	for n := 1; n <= 5; n++ {
		full := justFits(n)
		for more, need := range []int{n, n + 1} {
			l, d := begun(t, 8, 2)
			group := [][]byte{counted(len(full[0]) + more)}
			commit(t, l, group)
			if d.Steps() != need+1 {
				t.Fatalf("%d steps, not %d writes and a sync", d.Steps(), need)
			}
			wantLog(t, l, [][][]byte{group}, 0, need, 8-need)
			wantDisk(t, d, 0, sectorsByWords(2, 0, group))
			commit(t, l, texts("behind"))
			wantLog(t, open(t, d, 0, 8, 2), [][][]byte{group, texts("behind")}, 0, need+1, 7-need)
		}
	}
}

func TestCommitWhereNothingWaits(t *testing.T) {
	for _, l := range []*wal.Log{nil, {}} {
		want(t, "Commit", l.Commit(), api.ErrNil)
	}
	l, d := begun(t, 3, 2)
	want(t, "Commit", l.Commit(), api.OK)
	wantLog(t, l, nil, 0, 0, 3)
	commit(t, l, texts("a"))
	steps := d.Steps()
	want(t, "Commit", l.Commit(), api.OK)
	d.Write(2, make([]byte, 256))
	want(t, "Commit", l.Commit(), api.OK) // not even a sync
	if d.Steps() != steps+1 || len(d.Pending()) != 1 {
		t.Fatal("a Commit where nothing waits is a step")
	}
	d.Cut(0)
	want(t, "Commit", l.Commit(), api.OK)
	want(t, "Append", l.Append([]byte("b")), api.OK) // it is not closed by that
	wantLog(t, l, [][][]byte{texts("a")}, 1, 1, 2)
}

func TestCommitWritesInOrderAndThenSyncs(t *testing.T) {
	d := newDisk(t, 12)
	l := open(t, d, 2, 10, 1)
	want(t, "Begin", l.Begin(2), api.OK)
	commit(t, l, texts("a"))
	appendAll(t, l, [][]byte{counted(800)})
	d.Cut(4)
	want(t, "Commit", l.Commit(), api.ErrDown) // the sync is refused
	if p := d.Pending(); !slices.Equal(p, []int{3, 4, 5, 6}) {
		t.Fatalf("written: %v", p)
	}
	after, _ := d.Lose(api.Loss{Kept: []bool{true, true, true, true}, Torn: -1})
	wantDisk(t, after, 2, allByWords(2, [][][]byte{texts("a"), {counted(800)}}))
	after, _ = d.Lose(api.Loss{Torn: -1})
	wantDisk(t, after, 2, sectorsByWords(2, 0, texts("a")))
}

func TestCommitThatTheDiskRefuses(t *testing.T) {
	for steps := range 6 {
		l, d := begun(t, 8, 2)
		commit(t, l, texts("a"))
		appendAll(t, l, [][]byte{counted(800), nil})
		d.Cut(steps)
		need := api.ErrDown
		if steps == 5 {
			need = api.OK // the power goes off behind the sync
		}
		want(t, "Commit", l.Commit(), need)
		if need == api.OK {
			wantLog(t, l, [][][]byte{texts("a"), {counted(800), nil}}, 0, 5, 3)
			want(t, "Append", l.Append(nil), api.OK)
			continue
		}
		wantLog(t, l, [][][]byte{texts("a")}, 0, 1, 7)
		wantClosed(t, l)
		if d.Steps() != 2+steps || len(d.Pending()) != steps {
			t.Fatalf("cut behind %d: %d steps", steps, d.Steps())
		}
		want(t, "Begin", l.Begin(2), api.ErrInvalid)
		wantClosed(t, l)
		want(t, "Begin", l.Begin(3), api.OK)
		wantLog(t, l, nil, 0, 0, 8)
		appendAll(t, l, texts("b"))
		want(t, "Commit", l.Commit(), api.ErrDown) // the power is still off
		wantLog(t, l, nil, 0, 0, 8)
		wantClosed(t, l)
	}
}

func TestCommitOfSeveralGroups(t *testing.T) {
	l, d := begun(t, 60, 2)
	var groups [][][]byte
	for _, g := range several() {
		commit(t, l, g)
		groups = append(groups, g)
		used := len(allByWords(2, groups))
		wantLog(t, l, groups, 0, used, 60-used)
		wantDisk(t, d, 0, allByWords(2, groups))
		wantLog(t, open(t, d, 0, 60, 2), groups, 0, used, 60-used)
	}
}

func TestCommitLeavesOtherSectors(t *testing.T) {
	d := newDisk(t, 6)
	for i := range 6 {
		d.Write(i, bytes.Repeat([]byte{byte(i + 1)}, 256))
	}
	l := open(t, d, 2, 2, 1)
	want(t, "Begin", l.Begin(2), api.OK)
	group := [][]byte{counted(300)}
	commit(t, l, group)
	var need [][]byte
	for i := range 6 {
		need = append(need, bytes.Repeat([]byte{byte(i + 1)}, 256))
	}
	copy(need[2:], sectorsByWords(2, 0, group))
	wantDisk(t, d, 0, need)
	if len(d.Pending()) != 0 {
		t.Fatal("what waited on the disk waits still")
	}
}

// P8.5

func TestWhatNoCallMadeTellsNothing(t *testing.T) {
	for _, l := range []*wal.Log{nil, {}} {
		l.Append([]byte("a"))
		l.Begin(2)
		l.Commit()
		if len(l.Groups()) != 0 || l.Waiting() != 0 || l.Used() != 0 || l.Room() != 0 || l.Drop() != 0 {
			t.Fatal("a log that is none tells something")
		}
	}
}

func fill(b []byte) {
	for i := range b {
		b[i] = 'x'
	}
}

// spoilAll overwrites groups that were told, their spare room too.
func spoilAll(groups [][][]byte) {
	for _, g := range groups[:cap(groups)] {
		for _, r := range g[:cap(g)] {
			fill(r[:cap(r)])
		}
		for i := range g[:cap(g)] {
			g[:cap(g)][i] = []byte("spoilt")
		}
	}
	for i := range groups[:cap(groups)] {
		groups[:cap(groups)][i] = texts("spoilt")
	}
}

func TestGroupsAreMemoryOfTheirOwn(t *testing.T) {
	l, d := begun(t, 60, 2)
	var groups [][][]byte
	for i, g := range several() {
		commit(t, l, g)
		groups = append(groups, several()[i])
		used := len(allByWords(2, groups))
		o := open(t, d, 0, 60, 2)
		for _, x := range []*wal.Log{l, o} {
			told := x.Groups()
			spoilAll(x.Groups())
			if !sameGroups(told, groups) {
				t.Fatal("two answers share memory")
			}
			spoilAll(told)
			wantLog(t, x, groups, 0, used, 60-used)
		}
		wantDisk(t, d, 0, allByWords(2, groups))
	}
}

// No two lists of one answer share memory: what is put behind one is in no other one.
func TestGroupsShareNothing(t *testing.T) {
	l, d := begun(t, 60, 2)
	for _, g := range several() {
		commit(t, l, g)
	}
	for _, x := range []*wal.Log{l, open(t, d, 0, 60, 2)} {
		told := x.Groups()
		for i, g := range told {
			for j, r := range g {
				_ = append(r, "behind"...)
				fill(r[:cap(r)])
				told[i][j] = slices.Clone(several()[i][j])
				if !sameGroups(told, several()) {
					t.Fatalf("record %d of group %d shares memory with another one", j, i)
				}
			}
			_ = append(g, []byte("behind"))
			if !sameGroups(told, several()) {
				t.Fatalf("group %d shares memory with another one", i)
			}
		}
	}
}

func TestWhatIsToldStaysAsItWas(t *testing.T) {
	l, _ := begun(t, 8, 2)
	commit(t, l, texts("a"))
	told := l.Groups()
	commit(t, l, texts("b"))
	want(t, "Begin", l.Begin(3), api.OK)
	commit(t, l, texts("c"))
	if !sameGroups(told, [][][]byte{texts("a")}) {
		t.Fatalf("what was told is %v now", told)
	}
}
