package disk_test

import (
	"bytes"
	"testing"

	"tabulary/api"
	"tabulary/disk"
)

// dice is a sequence of numbers that is the same in every run.
type dice uint64

func (x *dice) below(n int) int {
	*x = *x*6364136223846793005 + 1442695040888963407
	return int(uint64(*x) >> 33 % uint64(n))
}

// mirror is what the chapter's words say of a disk, by lists alone: what each sector holds, and each write that waits.
type mirror struct {
	held    [][]byte
	places  []int
	waiting [][]byte
}

func newMirror(n int) *mirror {
	m := &mirror{}
	for range n {
		m.held = append(m.held, filled(0))
	}
	return m
}

func (m *mirror) write(i int, b []byte) {
	m.places = append(m.places, i)
	m.waiting = append(m.waiting, bytes.Clone(b))
}

func (m *mirror) has(i int) []byte {
	b := m.held[i]
	for k, p := range m.places {
		if p == i {
			b = m.waiting[k]
		}
	}
	return b
}

func (m *mirror) sync() {
	for i := range m.held {
		m.held[i] = bytes.Clone(m.has(i))
	}
	m.places, m.waiting = nil, nil
}

func (m *mirror) spoil(i, at int, b byte) {
	m.held[i][at] = b
	for k, p := range m.places {
		if p == i {
			m.waiting[k][at] = b
		}
	}
}

func (m *mirror) lose(l api.Loss) *mirror {
	y := &mirror{}
	for _, b := range m.held {
		y.held = append(y.held, bytes.Clone(b))
	}
	for k, p := range m.places {
		n := 0
		if k < len(l.Kept) && l.Kept[k] {
			n = api.Sector
		}
		if k == l.Torn {
			n = l.At
		}
		copy(y.held[p], m.waiting[k][:n])
	}
	return y
}

func (x *dice) sector() []byte {
	switch x.below(4) {
	case 0:
		return filled(0)
	case 1:
		return filled(byte(x.below(256)))
	}
	b := filled(0)
	for range 3 {
		b[x.below(api.Sector)] = byte(x.below(256))
	}
	return b
}

func (x *dice) loss(waiting int) api.Loss {
	l := api.Loss{Torn: x.below(waiting+3) - 1, At: x.below(api.Sector + 1)}
	for range x.below(waiting + 3) {
		l.Kept = append(l.Kept, x.below(2) == 0)
	}
	return l
}

func wantAll(t *testing.T, d *disk.Disk, m *mirror) {
	t.Helper()
	for i := range m.held {
		wantSector(t, d, i, m.has(i))
	}
	wantPending(t, d, m.places...)
}

// P1.6, and with it P1.2, P1.4 and P1.5 over many mixed calls.
func TestADiskDoesWhatTheWordsSay(t *testing.T) {
	for seed := range 60 {
		x := dice(seed)
		n := 1 + x.below(5)
		d, m := makeDisk(t, n), newMirror(n)
		for range 80 {
			i := x.below(n)
			switch x.below(10) {
			case 0, 1, 2, 3, 4:
				b := x.sector()
				write(t, d, i, b)
				m.write(i, b)
			case 5:
				sync(t, d)
				m.sync()
			case 6:
				at, b := x.below(api.Sector), byte(x.below(3))
				want(t, "Spoil", d.Spoil(i, at, b), api.OK)
				m.spoil(i, at, b)
			case 7:
				l := x.loss(len(m.places))
				d, m = lose(t, d, l), m.lose(l)
			default:
				l := x.loss(len(m.places))
				wantAll(t, lose(t, d, l), m.lose(l))
			}
			wantAll(t, d, m)
		}
	}
}

// P1.6: what was synced is on every disk that Lose tells, but where a waiting write goes over it.
func TestWhatWasSyncedStays(t *testing.T) {
	d := makeDisk(t, 3)
	for i := range 3 {
		write(t, d, i, filled(byte(1+i)))
	}
	sync(t, d)
	write(t, d, 1, filled(9))
	write(t, d, 1, filled(8))
	cut(t, d, 0)
	for kept := range 4 {
		for torn := -1; torn <= 2; torn++ {
			for at := range api.Sector + 1 {
				y := lose(t, d, api.Loss{Kept: []bool{kept&1 != 0, kept&2 != 0}, Torn: torn, At: at})
				wantSector(t, y, 0, filled(1))
				wantSector(t, y, 2, filled(3))
			}
		}
	}
}

// P1.6: with all kept, and none torn, that disk has what this one has; with nothing kept, what it holds.
func TestAllKeptAndNothingKept(t *testing.T) {
	d := threeWaiting(t)
	all, nothing := lose(t, d, allKept), lose(t, d, none)
	for i := range 3 {
		b, e := d.Read(i)
		want(t, "Read", e, api.OK)
		wantSector(t, all, i, b)
	}
	for i, b := range [][]byte{filled(1), filled(2), filled(0)} {
		wantSector(t, nothing, i, b)
	}
}
