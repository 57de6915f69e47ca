// Package over writes stamped sectors over others, so that stamps alone tell which of them are torn, also where those others were torn themselves.
package over

import (
	"bytes"
	"slices"

	"tabulary/api"
	"tabulary/disk"
	"tabulary/stamp"
)

// lastByte ends a sector's second stamp. A write that changes one byte alone cannot be torn.
const lastByte = api.Sector - 1

// Write writes sectors from a place on, in order, and makes them last. Where what stands there is no ground for one, a ground is made to last ahead of them.
func Write(d *disk.Disk, at int, sectors ...[]byte) api.Errno {
	bare := true
	for i, young := range sectors {
		old, e := d.Read(at + i)
		if e != api.OK {
			return e
		}
		if isGround(old, young) {
			continue
		}
		bare = false
		if e := d.Write(at+i, ground(old, young)); e != api.OK {
			return e
		}
	}
	if !bare {
		if e := d.Sync(); e != api.OK {
			return e
		}
	}
	for i, young := range sectors {
		if e := d.Write(at+i, young); e != api.OK {
			return e
		}
	}
	return d.Sync()
}

// isGround tells whether a write of young over old, torn anywhere, leaves nothing that is opened but old or young. Chapter 7 says so of an old one that has another stamp, or is of bytes 0. One that was torn in its last stamp may end with young's by chance: a sum would have to tell it then.
func isGround(old, young []byte) bool {
	m, _, _, e := stamp.Open(old)
	n, _, _, _ := stamp.Open(young)
	if e == api.OK && m != n || bytes.Equal(old, make([]byte, api.Sector)) {
		return true
	}
	for at := range api.Sector {
		left := stamp.Torn(old, young, at)
		if opened(left) && !bytes.Equal(left, old) && !bytes.Equal(left, young) {
			return false
		}
	}
	return true
}

// ground is old with another last byte, one that ends neither young's stamp nor the first one of old.
func ground(old, young []byte) []byte {
	g := slices.Clone(old)
	for opened(g) || !isGround(g, young) {
		g[lastByte]++
	}
	return g
}

func opened(b []byte) bool {
	_, _, _, e := stamp.Open(b)
	return e == api.OK
}
