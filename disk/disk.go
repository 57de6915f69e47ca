// Package disk is layer 1: see shared/doc/01-disk.md.
package disk

import (
	"maps"
	"slices"

	"tabulary/api"
)

// sector is an array, so that it is copied wherever it is handed on: no two disks, and no caller, share one.
type sector [api.Sector]byte

// write is one that waits.
type write struct {
	place int
	bytes sector
}

// uncut stands for the steps that are left while no Cut was asked for.
const uncut = -1

// Disk is sectors that can lose power.
type Disk struct {
	size    int
	held    map[int]sector // a sector that is not in it is of bytes 0
	waiting []write
	steps   int
	left    int // steps until the power goes off; at 0 it is off
}

// New makes a disk.
func New(n int) (*Disk, api.Errno) {
	if n < 1 || n > api.MaxSectors {
		return nil, api.ErrInvalid
	}
	return &Disk{size: n, held: map[int]sector{}, left: uncut}, api.OK
}

// Size tells how many sectors it has.
func (d *Disk) Size() int {
	if !d.made() {
		return 0
	}
	return d.size
}

// Read tells what a sector has.
func (d *Disk) Read(i int) ([]byte, api.Errno) {
	switch {
	case !d.made():
		return nil, api.ErrNil
	case !d.hasSector(i):
		return nil, api.ErrInvalid
	case d.off():
		return nil, api.ErrDown
	}
	s := d.has(i)
	return slices.Clone(s[:]), api.OK
}

// Write writes a sector.
func (d *Disk) Write(i int, b []byte) api.Errno {
	switch {
	case !d.made():
		return api.ErrNil
	case !d.hasSector(i) || len(b) != api.Sector:
		return api.ErrInvalid
	case d.off():
		return api.ErrDown
	}
	w := write{place: i}
	copy(w.bytes[:], b)
	d.waiting = append(d.waiting, w)
	d.step()
	return api.OK
}

// Sync makes all that waits last.
func (d *Disk) Sync() api.Errno {
	switch {
	case !d.made():
		return api.ErrNil
	case d.off():
		return api.ErrDown
	}
	for _, w := range d.waiting {
		d.hold(w.place, w.bytes)
	}
	d.waiting = nil
	d.step()
	return api.OK
}

// Cut cuts the power off behind some steps.
func (d *Disk) Cut(n int) api.Errno {
	switch {
	case !d.made():
		return api.ErrNil
	case n < 0:
		return api.ErrInvalid
	}
	if !d.off() {
		d.left = n
	}
	return api.OK
}

// Steps tells how many steps there were.
func (d *Disk) Steps() int {
	if !d.made() {
		return 0
	}
	return d.steps
}

// Pending tells the sectors of the writes that wait.
func (d *Disk) Pending() []int {
	if !d.made() {
		return nil
	}
	places := make([]int, 0, len(d.waiting))
	for _, w := range d.waiting {
		places = append(places, w.place)
	}
	return places
}

// Lose tells the disk behind a loss of power.
func (d *Disk) Lose(l api.Loss) (*Disk, api.Errno) {
	if !d.made() {
		return nil, api.ErrNil
	}
	tears := l.Torn >= 0 && l.Torn < len(d.waiting)
	if tears && (l.At < 0 || l.At > api.Sector) {
		return nil, api.ErrInvalid
	}
	after := &Disk{size: d.size, held: maps.Clone(d.held), left: uncut}
	for k, w := range d.waiting {
		switch {
		case k == l.Torn: // ahead of Kept: one that is both is torn
			s := after.held[w.place]
			copy(s[:l.At], w.bytes[:])
			after.hold(w.place, s)
		case k < len(l.Kept) && l.Kept[k]:
			after.hold(w.place, w.bytes)
		}
	}
	return after, api.OK
}

// Spoil spoils a byte.
func (d *Disk) Spoil(i, at int, b byte) api.Errno {
	switch {
	case !d.made():
		return api.ErrNil
	case !d.hasSector(i) || at < 0 || at >= api.Sector:
		return api.ErrInvalid
	}
	s := d.held[i]
	s[at] = b
	d.hold(i, s)
	for k := range d.waiting {
		if d.waiting[k].place == i {
			d.waiting[k].bytes[at] = b
		}
	}
	return api.OK
}

// made tells whether a call made the disk: those that did gave it a sector at least.
func (d *Disk) made() bool { return d != nil && d.size > 0 }

// hasSector tells whether there is a sector i.
func (d *Disk) hasSector(i int) bool { return i >= 0 && i < d.size }

// off tells whether the power is off.
func (d *Disk) off() bool { return d.left == 0 }

// step counts one, and with the last one that is left the power goes off.
func (d *Disk) step() {
	d.steps++
	if d.left > 0 {
		d.left--
	}
}

// has tells what a sector has: the last of the writes to it that wait goes ahead of what it holds.
func (d *Disk) has(i int) sector {
	for k := len(d.waiting) - 1; k >= 0; k-- {
		if d.waiting[k].place == i {
			return d.waiting[k].bytes
		}
	}
	return d.held[i]
}

// hold lays a sector down. One of bytes 0 is taken out, so that a disk takes no more room than what is written on it.
func (d *Disk) hold(i int, s sector) {
	if s == (sector{}) {
		delete(d.held, i)
		return
	}
	d.held[i] = s
}
