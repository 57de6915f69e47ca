package wal_test

import (
	"bytes"
	"slices"
	"testing"

	"tabulary/api"
	"tabulary/disk"
	"tabulary/wal"
)

// P8.4: the pieces of what waits are written, in order, and the disk synced, and nothing else is

// wantPiecesAndSync commits a group as the first one of an epoch, on disks of four sectors that are made alike: in as many steps as it has pieces, and one; torn anywhere, the epoch has that group or none.
func wantPiecesAndSync(t *testing.T, made func() (*disk.Disk, *wal.Log), epoch int, group [][]byte) {
	t.Helper()
	need := sectorsByWords(epoch, 0, group)
	d, l := made()
	want(t, "Begin", l.Begin(epoch), api.OK)
	appendAll(t, l, group)
	steps := d.Steps()
	want(t, "Commit", l.Commit(), api.OK)
	if d.Steps() != steps+len(need)+1 || len(d.Pending()) != 0 {
		t.Fatalf("Commit: %d steps, not %d Writes and a Sync", d.Steps()-steps, len(need))
	}
	wantLog(t, open(t, d, 0, 4, epoch), [][][]byte{group}, 0, len(need), 4-len(need))

	for cut := range len(need) {
		d, l = made()
		want(t, "Begin", l.Begin(epoch), api.OK)
		appendAll(t, l, group)
		d.Cut(cut + 1)
		want(t, "Commit", l.Commit(), api.ErrDown)
		if p := d.Pending(); !slices.Equal(p, []int{0, 1, 2, 3}[:cut+1]) {
			t.Fatalf("cut behind %d steps: %v wait", cut+1, p)
		}
		all := slices.Repeat([]bool{true}, cut+1)
		after, _ := d.Lose(api.Loss{Kept: all, Torn: -1})
		for i, s := range imageOf(t, after, 0, cut+1) {
			if !bytes.Equal(s, need[i]) {
				t.Fatalf("what is written is not the piece's sector: its first bytes are %v, its last ones %v", s[:8], s[248:])
			}
		}
		for at := range 257 {
			after, _ = d.Lose(api.Loss{Kept: all, Torn: cut, At: at})
			if g := open(t, after, 0, 4, epoch).Groups(); len(g) > 0 && !sameGroups(g, [][][]byte{group}) {
				t.Fatalf("torn at %d: %v", at, g)
			}
		}
	}
}

func TestACommitOverASectorThatIsSpoilt(t *testing.T) {
	for _, group := range [][][]byte{{{7, 8, 9}}, {counted(500)}} {
		for at := range 256 {
			wantPiecesAndSync(t, func() (*disk.Disk, *wal.Log) {
				l, d := begun(t, 4, 2)
				commit(t, l, [][]byte{counted(700)})
				for i, s := range imageOf(t, d, 0, 4) {
					d.Spoil(i, at, s[at]^1)
				}
				return d, l
			}, 3, group)
		}
	}
}

// What is torn again may be the sector that stood there at first, with its own epoch, which was begun, and is over.
func TestACommitOverASectorThatIsTorn(t *testing.T) {
	for _, x := range []struct{ first, second, third int }{
		{256, 513, 301},
		{256, 513, 514},
		{0x100, 0x205, 0x200},
		{0x10000, 0x20001, 0x10002},
		{2, 3, 4},
		{0xfe, 0x100, 0x1fe},
		{0x10, 0x150, 0x110},
		{0xfffffe, 0x1000000, 0x1fffffe},
		{513, 769, 514},
		{7, greatest - 1, greatest},
	} {
		for _, end := range places() {
			for torn := range 3 {
				wantPiecesAndSync(t, func() (*disk.Disk, *wal.Log) {
					l, d := begun(t, 4, x.first)
					commit(t, l, [][]byte{counted(650)})
					want(t, "Begin", l.Begin(x.second), api.OK)
					appendAll(t, l, [][]byte{make([]byte, 650)})
					d.Cut(3)
					want(t, "Commit", l.Commit(), api.ErrDown)
					d, _ = d.Lose(api.Loss{Kept: []bool{torn > 0, torn > 1}, Torn: torn, At: end})
					return d, open(t, d, 0, 4, x.first)
				}, x.third, [][]byte{counted(500)})
			}
		}
	}
}

// An epoch that is above the one that is written, but was begun, is another one as well.
func TestACommitOverASectorOfAGreaterEpoch(t *testing.T) {
	for _, greater := range []int{4, 300, 70000, greatest} {
		for at := range 256 {
			wantPiecesAndSync(t, func() (*disk.Disk, *wal.Log) {
				l, d := begun(t, 4, greater)
				commit(t, l, texts("abc"))
				d.Spoil(0, at, imageOf(t, d, 0, 1)[0][at]^1)
				return d, open(t, d, 0, 4, 1)
			}, 3, texts("de"))
		}
	}
}
