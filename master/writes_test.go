package master_test

import (
	"bytes"
	"slices"
	"testing"

	"tabulary/api"
	"tabulary/disk"
	"tabulary/master"
)

// P10.3: the other slot is written, and the disk synced, and nothing else is

// sector is what a sector holds, also of a disk whose power is off.
func sector(t *testing.T, d *disk.Disk, i int) []byte {
	t.Helper()
	on, _ := d.Lose(api.Loss{Torn: -1})
	s, e := on.Read(i)
	if e != api.OK {
		t.Fatalf("Read: error %d", e)
	}
	return s
}

// begin lays a disk, with a master on its sectors 1 and 2 that is to save something.
type begin func() (*disk.Disk, *master.Master)

// wantWriteAndSync saves on disks that are laid alike: in two steps, of which the first one writes the slot's sector, and nothing else.
func wantWriteAndSync(t *testing.T, lay begin, k kept) {
	t.Helper()
	d, m := lay()
	steps, slot := d.Steps(), 0
	if m.Slot() == 0 {
		slot = 1
	}
	left := [2][]byte{sector(t, d, 1), sector(t, d, 2)}
	wantSave(t, m, k.fields, k.epoch, api.OK)
	if d.Steps() != steps+2 || len(d.Pending()) != 0 {
		t.Fatalf("Save: %d steps, not a Write and a Sync", d.Steps()-steps)
	}
	wantLatest(t, m, k.fields, k.epoch, slot)
	left[slot] = slotByWords(k.fields, k.epoch)
	wantDisk(t, d, 1, left[0], left[1])

	d, m = lay()
	d.Cut(1)
	wantSave(t, m, k.fields, k.epoch, api.ErrDown)
	if p := d.Pending(); !slices.Equal(p, []int{1 + slot}) {
		t.Fatalf("cut behind one step: %v wait", p)
	}
	after, _ := d.Lose(api.Loss{Kept: []bool{true}, Torn: -1})
	if s := sector(t, after, 1+slot); !bytes.Equal(s, left[slot]) {
		t.Fatalf("what is written first is not the slot's sector: its first bytes are %v, its last ones %v", s[:8], s[248:])
	}
}

// wantOneOfBoth cuts a Save behind its Write, and tears that anywhere: what is opened is the latest one ahead, or what was being saved.
func wantOneOfBoth(t *testing.T, lay begin, k kept) {
	t.Helper()
	d, m := lay()
	f, n, _ := m.Latest()
	d.Cut(1)
	wantSave(t, m, k.fields, k.epoch, api.ErrDown)
	for at := range 257 {
		after, _ := d.Lose(api.Loss{Torn: 0, At: at})
		wantOneOf(t, after, kept{f, n}, k)
	}
}

// saved is a disk behind Saves of the epochs from 1 on, with their master.
func saved(t *testing.T, fields ...[]uint64) (*disk.Disk, *master.Master) {
	t.Helper()
	d := newDisk(t, 4)
	m := open(t, d, 1)
	for i, f := range fields {
		wantSave(t, m, f, 1+i, api.OK)
	}
	return d, m
}

// spoil changes a slot's bytes to others.
func spoil(t *testing.T, d *disk.Disk, slot int, to []byte) {
	t.Helper()
	for i, b := range to {
		if e := d.Spoil(1+slot, i, b); e != api.OK {
			t.Fatalf("Spoil: error %d", e)
		}
	}
}

// A byte of either slot is spoilt, behind one to three Saves: of the latest one, so that none stands, or the one ahead is told; or of the other one.
func TestASaveOverASlotThatIsSpoilt(t *testing.T) {
	for _, all := range [][][]uint64{{nil}, {nil, {0}}, {{0}, {1}, {2}}} {
		for slot := range min(2, len(all)) {
			for at := range 256 {
				for _, bit := range []byte{1, 128} {
					lay := func() (*disk.Disk, *master.Master) {
						d, m := saved(t, all...)
						d.Spoil(1+slot, at, sector(t, d, 1+slot)[at]^bit)
						return d, m
					}
					wantWriteAndSync(t, lay, kept{nil, len(all) + 1})
					anew := func() (*disk.Disk, *master.Master) {
						d, _ := lay()
						return d, open(t, d, 1)
					}
					_, m := anew()
					_, epoch, _ := m.Latest()
					wantWriteAndSync(t, anew, kept{nil, epoch + 1})
					wantWriteAndSync(t, anew, kept{[]uint64{9}, epoch + 2})
				}
			}
		}
	}
}

// The first byte of the only slot that stands is spoilt, and its epoch is saved again: a torn Save would bring back what was spoilt.
func TestASaveOfTheEpochThatWasSpoilt(t *testing.T) {
	wantWriteAndSync(t, func() (*disk.Disk, *master.Master) {
		d, _ := saved(t, nil)
		d.Spoil(1, 0, 1)
		m := open(t, d, 1)
		wantNone(t, m)
		return d, m
	}, kept{[]uint64{0}, 1})
	wantWriteAndSync(t, func() (*disk.Disk, *master.Master) {
		d, _ := saved(t, nil, []uint64{0})
		d.Spoil(2, 0, 1)
		m := open(t, d, 1)
		wantLatest(t, m, nil, 1, 0)
		return d, m
	}, kept{nil, 2})
}

// What was spoilt ends with the epoch that is saved next, and its sum is right for that one.
func TestASaveOverASlotThatEndsWithItsEpoch(t *testing.T) {
	for _, epoch := range []int{3, 4, 255, 256, 257, 510, 65536, greatest} {
		for _, fields := range [][]uint64{nil, {5, 300}, counted(20)} {
			lay := func() (*disk.Disk, *master.Master) {
				d, m := saved(t, fields, nil)
				left := slotByWords(fields, epoch)
				copy(left, eightByWords(1))
				spoil(t, d, 0, left)
				return d, m
			}
			wantWriteAndSync(t, lay, kept{[]uint64{9}, epoch})
			wantWriteAndSync(t, lay, kept{nil, epoch})
		}
	}
}

// What is torn again may be the sector that stood there at first, with its own epoch, which is below the latest one's; or it ends with the epoch that is saved next.
func TestASaveOverASlotThatIsTorn(t *testing.T) {
	full := slices.Repeat([]uint64{1 << 63}, 20)
	for _, x := range []struct{ first, second, third, fourth int }{
		{256, 300, 513, 301},
		{256, 300, 513, 513},
		{256, 300, 513, 514},
		{0x100, 0x1ff, 0x205, 0x200},
		{0x10000, 0x10001, 0x20001, 0x10002},
		{1, 2, 3, 3},
		{1, 2, 3, 4},
		{254, 255, 256, 257},
		{254, 255, 256, 510},
		{0xfffe, 0xffff, 0x10000, 0x1fffe},
		{7, 500, greatest, 501},
	} {
		for _, end := range []int{0, 1, 4, 5, 6, 7, 8, 9, 100, 244, 248, 252, 253, 254, 255} {
			for _, fields := range [][]uint64{nil, {5, 300}, full} {
				lay := func() (*disk.Disk, *master.Master) {
					d := newDisk(t, 4)
					m := open(t, d, 1)
					wantSave(t, m, fields, x.first, api.OK)
					wantSave(t, m, []uint64{7}, x.second, api.OK)
					d.Cut(1)
					wantSave(t, m, []uint64{8}, x.third, api.ErrDown)
					d, _ = d.Lose(api.Loss{Torn: 0, At: end})
					m = open(t, d, 1)
					wantLatest(t, m, []uint64{7}, x.second, 1)
					return d, m
				}
				wantWriteAndSync(t, lay, kept{fields, x.fourth})
				wantOneOfBoth(t, lay, kept{fields, x.fourth})
			}
		}
	}
}

// Any bytes: such as end with the epoch that is saved, or begin with it, with sums that are right for what a torn write would leave.
func TestASaveOverAnyBytes(t *testing.T) {
	d := dice(104)
	for range 2000 {
		epoch := 2 + d.below(greatest-1)
		young := d.long(20)
		at := d.below(244)
		old := append(slices.Clone(slotByWords(young, epoch)[:10]), slotByWords(d.long(20), epoch)[10:]...)
		for range d.below(3) {
			old[d.below(8)] ^= 1 << d.below(8)
		}
		for range d.below(2) {
			old[248+d.below(8)] ^= 1 << d.below(8)
		}
		left := append(slices.Clone(slotByWords(young, epoch)[:at]), old[at:]...)
		copy(old[244:248], resummed(left)[244:248])
		if standsByWords(old).epoch != 0 {
			continue
		}
		wantWriteAndSync(t, func() (*disk.Disk, *master.Master) {
			on := laid(t, 4, 1, old, slotByWords([]uint64{7}, 1))
			return on, open(t, on, 1)
		}, kept{young, epoch})
	}
}

// age changes a disk as losses of power and bytes that are spoilt do.
func (d *dice) age(t *testing.T, on *disk.Disk, k kept) *disk.Disk {
	t.Helper()
	if d.below(2) == 0 {
		i, at := 1+d.below(2), d.below(8)
		if d.below(2) == 0 {
			at += 248
		}
		on.Spoil(i, at, byte(d.below(4)))
		return on
	}
	m := open(t, on, 1)
	on.Cut(1)
	m.Save(k.fields, k.epoch)
	on, _ = on.Lose(d.loss(len(on.Pending())))
	return on
}

func TestSavesOnADiskThatAges(t *testing.T) {
	d, stale := dice(105), 0
	for range 150 {
		on, epoch := newDisk(t, 4), d.below(600)
		for range 40 {
			if d.below(2) == 0 {
				on = d.age(t, on, kept{d.fields(), epoch + 1 + d.below(600)})
			}
			m := open(t, on, 1)
			_, epoch, _ = m.Latest()
			young := kept{d.fields(), epoch + 1 + d.below([]int{2, 300}[d.below(2)])}
			i := 0
			if m.Slot() == 0 {
				i = 1
			}
			if standsByWords(sector(t, on, 1+i)).epoch == 0 {
				stale++
			}
			steps := on.Steps()
			wantSave(t, m, young.fields, young.epoch, api.OK)
			if n := on.Steps() - steps; n != 2 {
				t.Fatalf("Save: %d steps, not a Write and a Sync", n)
			}
			wantLatest(t, open(t, on, 1), young.fields, young.epoch, i)
		}
	}
	if stale < 1000 {
		t.Errorf("%d go over a slot that does not stand: too few to tell", stale)
	}
}
