package wal_test

import (
	"bytes"
	"hash/crc32"
	"slices"
	"testing"

	"tabulary/api"
	"tabulary/disk"
	"tabulary/wal"
)

// P8.4: the pieces of what waits are written, in order, and the disk synced, and nothing else is

// begin lays a disk of four sectors, which are all of a log that may begin an epoch.
type begin func() (*disk.Disk, *wal.Log)

// waits is a log of the epoch in which groups were committed, and another one waits.
func (lay begin) waits(t *testing.T, epoch int, ahead [][][]byte, group [][]byte) (*disk.Disk, *wal.Log) {
	t.Helper()
	d, l := lay()
	want(t, "Begin", l.Begin(epoch), api.OK)
	for _, g := range ahead {
		commit(t, l, g)
	}
	appendAll(t, l, group)
	return d, l
}

// wantPiecesAndSync commits a group on disks that are laid alike: in as many steps as it has pieces, and one; cut behind each of these, what waits are the first pieces, and nothing else.
func wantPiecesAndSync(t *testing.T, lay begin, epoch int, ahead [][][]byte, group [][]byte) {
	t.Helper()
	from := len(allByWords(epoch, ahead))
	need := sectorsByWords(epoch, from, group)
	d, l := lay.waits(t, epoch, ahead, group)
	all, steps := imageOf(t, d, 0, 4), d.Steps()
	want(t, "Commit", l.Commit(), api.OK)
	if d.Steps() != steps+len(need)+1 || len(d.Pending()) != 0 {
		t.Fatalf("Commit: %d steps, not %d Writes and a Sync", d.Steps()-steps, len(need))
	}
	copy(all[from:], need)
	wantDisk(t, d, 0, all)
	used := from + len(need)
	wantLog(t, open(t, d, 0, 4, epoch), append(slices.Clone(ahead), group), 0, used, 4-used)

	for cut := range len(need) + 1 {
		d, l = lay.waits(t, epoch, ahead, group)
		d.Cut(cut)
		want(t, "Commit", l.Commit(), api.ErrDown)
		if p := d.Pending(); !slices.Equal(p, []int{0, 1, 2, 3}[from:from+cut]) {
			t.Fatalf("cut behind %d steps: %v wait", cut, p)
		}
		after, _ := d.Lose(api.Loss{Kept: slices.Repeat([]bool{true}, cut), Torn: -1})
		for i, s := range imageOf(t, after, from, cut) {
			if !bytes.Equal(s, need[i]) {
				t.Fatalf("what is written is not the piece's sector: its first bytes are %v, its last ones %v", s[:8], s[248:])
			}
		}
	}
}

// wantAllOrNone cuts the Commit of an epoch's first group behind each of its Writes, and tears that anywhere: the epoch has that group or none.
func wantAllOrNone(t *testing.T, lay begin, epoch int, group [][]byte) {
	t.Helper()
	for cut := range sectorsByWords(epoch, 0, group) {
		d, l := lay.waits(t, epoch, nil, group)
		d.Cut(cut + 1)
		want(t, "Commit", l.Commit(), api.ErrDown)
		for at := range 257 {
			after, _ := d.Lose(api.Loss{Kept: slices.Repeat([]bool{true}, cut+1), Torn: cut, At: at})
			if g := open(t, after, 0, 4, epoch).Groups(); len(g) > 0 && !sameGroups(g, [][][]byte{group}) {
				t.Fatalf("torn at %d: %v", at, g)
			}
		}
	}
}

func TestACommitOverASectorThatIsSpoilt(t *testing.T) {
	for _, group := range [][][]byte{{{7, 8, 9}}, {counted(500)}} {
		for _, ahead := range [][][][]byte{nil, {texts("abc")}} {
			for at := range 256 {
				for _, bit := range []byte{1, 128} {
					wantPiecesAndSync(t, func() (*disk.Disk, *wal.Log) {
						l, d := begun(t, 4, 2)
						commit(t, l, [][]byte{counted(700)})
						for i, s := range imageOf(t, d, 0, 4) {
							d.Spoil(i, at, s[at]^bit)
						}
						return d, l
					}, 3, ahead, group)
				}
			}
		}
	}
}

// endsWith is a sector that ends with another mark, and whose sum is right for that one; its first mark stays.
func endsWith(s []byte, mark uint64) []byte {
	all := sectorByWords(mark, s[8], s[10:10+int(s[9])])
	copy(all, s[:8])
	return all
}

// What was spoilt ends with the mark that is written next, and its sum is right for that one: of the first piece, or of a later one, or of all.
func TestACommitOverSectorsThatEndWithItsMarks(t *testing.T) {
	for _, x := range []struct{ old, epoch int }{{2, 3}, {2, 4}, {255, 256}, {256, 257}, {256, 510}, {254, 510}, {7, greatest}} {
		for which := 1; which < 16; which++ {
			lay := func() (*disk.Disk, *wal.Log) {
				l, d := begun(t, 4, x.old)
				commit(t, l, [][]byte{counted(700)})
				for i, s := range imageOf(t, d, 0, 4) {
					for at, b := range endsWith(s, markByWords(x.epoch, i)) {
						if which>>i&1 == 1 {
							d.Spoil(i, at, b)
						}
					}
				}
				return d, l
			}
			for _, group := range [][][]byte{{{7, 8, 9}}, {counted(300)}, {make([]byte, 700)}} {
				wantPiecesAndSync(t, lay, x.epoch, nil, group)
			}
			wantPiecesAndSync(t, lay, x.epoch, [][][]byte{texts("abc")}, [][]byte{make([]byte, 600)})
		}
	}
}

// What is torn again may be the sector that stood there at first, with its own epoch, which was begun, and is over; or it ends with the mark that is written next.
func TestACommitOverASectorThatIsTorn(t *testing.T) {
	for _, x := range []struct{ first, second, third int }{
		{256, 513, 301},
		{256, 513, 514},
		{0x100, 0x205, 0x200},
		{0x10000, 0x20001, 0x10002},
		{2, 3, 4},
		{0xfe, 0x100, 0x1fe},
		{0x10, 0x150, 0x110},
		{0xfffffe, 0x1000000, 0x1fffffe},
		{513, 769, 514},
		{7, greatest - 1, greatest},
	} {
		for _, end := range places() {
			for torn := range 3 {
				lay := func() (*disk.Disk, *wal.Log) {
					l, d := begun(t, 4, x.first)
					commit(t, l, [][]byte{counted(650)})
					want(t, "Begin", l.Begin(x.second), api.OK)
					appendAll(t, l, [][]byte{make([]byte, 650)})
					d.Cut(3)
					want(t, "Commit", l.Commit(), api.ErrDown)
					d, _ = d.Lose(api.Loss{Kept: []bool{torn > 0, torn > 1}, Torn: torn, At: end})
					return d, open(t, d, 0, 4, x.first)
				}
				wantPiecesAndSync(t, lay, x.third, nil, [][]byte{counted(500)})
				wantAllOrNone(t, lay, x.third, [][]byte{counted(500)})
			}
		}
	}
}

// An epoch that is above the one that is written is another one as well.
func TestACommitOverASectorOfAGreaterEpoch(t *testing.T) {
	for _, greater := range []int{4, 300, 70000, greatest} {
		for at := range 256 {
			lay := func() (*disk.Disk, *wal.Log) {
				l, d := begun(t, 4, greater)
				commit(t, l, texts("abc"))
				d.Spoil(0, at, imageOf(t, d, 0, 1)[0][at]^1)
				return d, open(t, d, 0, 4, 1)
			}
			wantPiecesAndSync(t, lay, 3, nil, texts("de"))
		}
	}
}

// Any bytes: such as end with the marks that are written, or begin with them, with sums that are right for what a torn write would leave.
func TestACommitOverAnyBytes(t *testing.T) {
	d := dice(93)
	for range 500 {
		epoch := 2 + d.below(greatest-1)
		young := [][]byte{d.bytes(692)}
		old := sectorsByWords(epoch, 0, [][]byte{d.bytes(692)})
		for i, piece := range sectorsByWords(epoch, 0, young) {
			for range d.below(3) {
				old[i][d.below(8)] ^= 1 << d.below(8)
			}
			for range d.below(2) {
				old[i][248+d.below(8)] ^= 1 << d.below(8)
			}
			at := d.below(244)
			s := crc32.ChecksumIEEE(append(slices.Clone(piece[:at]), old[i][at:244]...))
			copy(old[i][244:], []byte{byte(s), byte(s >> 8), byte(s >> 16), byte(s >> 24)})
		}
		wantPiecesAndSync(t, func() (*disk.Disk, *wal.Log) {
			on := laid(t, 4, 0, old)
			return on, open(t, on, 0, 4, 1)
		}, epoch, nil, young)
	}
}
