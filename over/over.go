// Package over writes stamped sectors over others, so that no sum has to tell which of them are torn, also where those others were torn themselves.
package over

import (
	"bytes"
	"slices"

	"tabulary/api"
	"tabulary/disk"
	"tabulary/stamp"
)

// lastByte ends a sector's second stamp. A write that changes one byte alone cannot be torn.
const lastByte = api.Sector - 1

// Mistaken tells whether what a torn write of the i-th sector could leave, which is neither what stood there nor that sector, would be taken for what it is not.
type Mistaken func(i int, left []byte) bool

// Write writes sectors from a place on, in order, and makes them last: as many writes and a sync. Only where what a torn one of them could leave would be mistaken, a ground on which it is not is made to last ahead of them.
func Write(d *disk.Disk, at int, mistaken Mistaken, sectors ...[]byte) api.Errno {
	bare := true
	for i, young := range sectors {
		old, e := d.Read(at + i)
		if e != api.OK {
			return e
		}
		wrong := func(left []byte) bool { return mistaken(i, left) }
		if isGround(old, young, wrong) {
			continue
		}
		bare = false
		if e := d.Write(at+i, ground(old, young, wrong)); e != api.OK {
			return e
		}
	}
	if !bare {
		if e := d.Sync(); e != api.OK {
			return e
		}
	}
	for i, young := range sectors {
		if e := d.Write(at+i, young); e != api.OK {
			return e
		}
	}
	return d.Sync()
}

// isGround tells whether a write of young over old, torn anywhere, leaves nothing wrong but old or young. Where old has another stamp, or is of bytes 0, chapter 7 says that nothing else is opened at all.
func isGround(old, young []byte, wrong func(left []byte) bool) bool {
	m, _, _, e := stamp.Open(old)
	n, _, _, _ := stamp.Open(young)
	if e == api.OK && m != n || bytes.Equal(old, make([]byte, api.Sector)) {
		return true
	}
	for at := range api.Sector {
		left := stamp.Torn(old, young, at)
		if opened(left) && !bytes.Equal(left, old) && !bytes.Equal(left, young) && wrong(left) {
			return false
		}
	}
	return true
}

// ground is old with another last byte: with one that ends neither young's stamp nor the first one of old, no stamp is the same ahead and behind.
func ground(old, young []byte, wrong func(left []byte) bool) []byte {
	g := slices.Clone(old)
	for opened(g) || !isGround(g, young, wrong) {
		g[lastByte]++
	}
	return g
}

func opened(b []byte) bool {
	_, _, _, e := stamp.Open(b)
	return e == api.OK
}
