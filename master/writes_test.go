package master_test

import (
	"bytes"
	"slices"
	"testing"

	"tabulary/api"
	"tabulary/disk"
	"tabulary/master"
)

// P10.3: the other slot is written, and the disk synced, and nothing else is

// sector is what a sector holds, also of a disk whose power is off.
func sector(t *testing.T, d *disk.Disk, i int) []byte {
	t.Helper()
	on, _ := d.Lose(api.Loss{Torn: -1})
	s, e := on.Read(i)
	if e != api.OK {
		t.Fatalf("Read: error %d", e)
	}
	return s
}

// wantWriteAndSync saves on disks that are made alike: in two steps, of which the first one writes the slot's sector; torn anywhere, what is opened is the latest one or what was being saved.
func wantWriteAndSync(t *testing.T, made func() (*disk.Disk, *master.Master), k kept) {
	t.Helper()
	d, m := made()
	steps := d.Steps()
	wantSave(t, m, k.fields, k.epoch, api.OK)
	if d.Steps() != steps+2 || len(d.Pending()) != 0 {
		t.Fatalf("Save: %d steps, not a Write and a Sync", d.Steps()-steps)
	}
	wantLatest(t, open(t, d, 1), k.fields, k.epoch, m.Slot())
	slot := m.Slot()

	d, m = made()
	f, n, _ := m.Latest()
	ahead := kept{f, n}
	d.Cut(1)
	wantSave(t, m, k.fields, k.epoch, api.ErrDown)
	if p := d.Pending(); !slices.Equal(p, []int{1 + slot}) {
		t.Fatalf("cut behind one step: %v wait", p)
	}
	after, _ := d.Lose(api.Loss{Kept: []bool{true}, Torn: -1})
	if s := sector(t, after, 1+slot); !bytes.Equal(s, slotByWords(k.fields, k.epoch)) {
		t.Fatalf("what is written first is not the slot's sector: its first bytes are %v, its last ones %v", s[:8], s[248:])
	}
	for at := range 257 {
		after, _ = d.Lose(api.Loss{Torn: 0, At: at})
		wantOneOf(t, after, ahead, k)
	}
}

func TestASaveOverASlotThatIsSpoilt(t *testing.T) {
	for _, anew := range []bool{false, true} {
		for at := range 256 {
			wantWriteAndSync(t, func() (*disk.Disk, *master.Master) {
				d := newDisk(t, 4)
				m := open(t, d, 1)
				wantSave(t, m, nil, 1, api.OK)
				wantSave(t, m, nil, 2, api.OK)
				d.Spoil(1, at, sector(t, d, 1)[at]^1)
				if anew {
					m = open(t, d, 1)
				}
				return d, m
			}, kept{nil, 3})
		}
	}
}

// What is torn again may be the sector that stood there at first, with its own epoch, which is below the latest one's.
func TestASaveOverASlotThatIsTorn(t *testing.T) {
	full := slices.Repeat([]uint64{1 << 63}, 20)
	for _, x := range []struct{ first, second, third, fourth int }{
		{256, 300, 513, 301},
		{256, 300, 513, 513},
		{256, 300, 513, 514},
		{0x100, 0x1ff, 0x205, 0x200},
		{0x10000, 0x10001, 0x20001, 0x10002},
		{1, 2, 3, 3},
		{1, 2, 3, 4},
		{254, 255, 256, 257},
		{254, 255, 256, 510},
		{0xfffe, 0xffff, 0x10000, 0x1fffe},
		{7, 500, greatest, 501},
	} {
		for _, end := range []int{0, 1, 4, 5, 6, 7, 8, 9, 100, 244, 248, 252, 253, 254, 255} {
			for _, fields := range [][]uint64{nil, {5, 300}, full} {
				wantWriteAndSync(t, func() (*disk.Disk, *master.Master) {
					d := newDisk(t, 4)
					m := open(t, d, 1)
					wantSave(t, m, fields, x.first, api.OK)
					wantSave(t, m, []uint64{7}, x.second, api.OK)
					d.Cut(1)
					wantSave(t, m, []uint64{8}, x.third, api.ErrDown)
					d, _ = d.Lose(api.Loss{Torn: 0, At: end})
					m = open(t, d, 1)
					wantLatest(t, m, []uint64{7}, x.second, 1)
					return d, m
				}, kept{fields, x.fourth})
			}
		}
	}
}

// enough tells whether a Write and a Sync of the slot i keep P10.4, wherever they are torn; where what stands there ahead is what is told, nothing is mistaken.
func enough(s [2][]byte, i int, young kept) bool {
	was := [2]kept{standsByWords(s[0]), standsByWords(s[1])}
	ahead := latestByWords(was)
	for at := range 257 {
		is := was
		is[i] = standsByWords(append(slices.Clone(slotByWords(young.fields, young.epoch)[:at]), s[i][at:]...))
		told := latestByWords(is)
		switch {
		case told == i && is[i].epoch == young.epoch && slices.Equal(is[i].fields, young.fields):
		case told < 0 && ahead < 0:
		case told < 0 || ahead < 0 || is[told].epoch != was[ahead].epoch || !slices.Equal(is[told].fields, was[ahead].fields):
			return false
		}
	}
	return true
}

// age changes a disk as losses of power and bytes that are spoilt do.
func (d *dice) age(t *testing.T, on *disk.Disk, k kept) *disk.Disk {
	t.Helper()
	if d.below(2) == 0 {
		i, at := 1+d.below(2), d.below(8)
		if d.below(2) == 0 {
			at += 248
		}
		on.Spoil(i, at, byte(d.below(4)))
		return on
	}
	m := open(t, on, 1)
	on.Cut(1)
	m.Save(k.fields, k.epoch)
	on, _ = on.Lose(d.loss(len(on.Pending())))
	return on
}

// A Save takes more than a Write and a Sync only where these would not keep P10.4.
func TestASaveWritesNoMoreThanItNeeds(t *testing.T) {
	d, plain, more, stale := dice(105), 0, 0, 0
	for range 150 {
		on, epoch := newDisk(t, 4), d.below(600)
		for range 40 {
			if d.below(2) == 0 {
				on = d.age(t, on, kept{d.fields(), epoch + 1 + d.below(600)})
			}
			m := open(t, on, 1)
			_, epoch, _ = m.Latest()
			young := kept{d.fields(), epoch + 1 + d.below([]int{2, 300}[d.below(2)])}
			s, i := [2][]byte{sector(t, on, 1), sector(t, on, 2)}, 0
			if m.Slot() == 0 {
				i = 1
			}
			steps := on.Steps()
			wantSave(t, m, young.fields, young.epoch, api.OK)
			switch n := on.Steps() - steps; {
			case n == 2 && enough(s, i, young):
				plain++
				if standsByWords(s[i]).epoch == 0 {
					stale++
				}
			case n == 4 && !enough(s, i, young):
				more++
			default:
				t.Fatalf("Save: %d steps over a slot from %v to %v, and a Write and a Sync are enough: %v", n, s[i][:8], s[i][248:], enough(s, i, young))
			}
			wantLatest(t, open(t, on, 1), young.fields, young.epoch, i)
		}
	}
	if plain < 3000 || stale < 1000 || more < 20 {
		t.Errorf("%d and %d of %d: too few to tell", more, stale, plain)
	}
}

// The latest one itself is spoilt: the slot ahead of it is told, and a Save that is torn in its first byte would bring back what is spoilt, which is neither.
func TestASaveOverTheLatestThatIsSpoilt(t *testing.T) {
	for cut := range 5 {
		d := newDisk(t, 4)
		m := open(t, d, 1)
		for i := range 3 {
			wantSave(t, m, []uint64{uint64(i)}, i+1, api.OK)
		}
		d.Spoil(1, 0, 1)
		m = open(t, d, 1)
		wantLatest(t, m, []uint64{1}, 2, 1)
		d.Cut(cut)
		if e := m.Save([]uint64{9}, 4); e == api.OK != (cut == 4) {
			t.Fatalf("Save cut behind %d steps: error %d", cut, e)
		}
		for at := range 257 {
			after, _ := d.Lose(api.Loss{Torn: 0, At: at})
			wantOneOf(t, after, kept{[]uint64{1}, 2}, kept{[]uint64{9}, 4})
		}
	}
}
