package crc_test

import (
	"bytes"
	"math"
	"slices"
	"testing"

	"tabulary/api"
	"tabulary/crc"
)

// P2.4

func TestEveryCut(t *testing.T) {
	d := dice(11)
	for n := range 60 {
		b := d.bytes(n)
		whole := crc.Sum(b)
		for i := range n + 1 {
			wantSum(t, "Join", crc.Join(crc.Sum(b[:i]), crc.Sum(b[i:]), n-i), whole)
		}
	}
	b := []byte("123456789")
	for i := range 10 {
		for j := i; j < 10; j++ {
			behind := crc.Join(crc.Sum(b[i:j]), crc.Sum(b[j:]), 9-j)
			wantSum(t, "three parts", crc.Join(crc.Sum(b[:i]), behind, 9-i), 0xcbf43926)
		}
	}
}

func TestJoinIsNoughtsAndBoth(t *testing.T) {
	for _, a := range someSums() {
		for _, b := range someSums() {
			for _, n := range []int{-3, 0, 1, 2, 7, 64, 500} {
				noughts := crc.Sum(make([]byte, max(n, 0)))
				wantSum(t, "Join", crc.Join(a, b, n), crc.Noughts(a, n)^b^noughts)
			}
		}
		for _, n := range []int{1 << 20, circle, 1 << 40, math.MaxInt} {
			wantSum(t, "Join", crc.Join(a, 5, n), crc.Noughts(a, n)^5^crc.Noughts(0, n))
		}
	}
}

func TestNoughtsOfNoughts(t *testing.T) {
	numbers := []int{0, 1, 2, 3, 8, 31, 32, 33, 1000, 1<<31 - 1, 1 << 32, 1<<50 + 12345, 1<<62 - 1}
	for _, a := range someSums() {
		for _, n := range numbers {
			for _, m := range numbers {
				wantSum(t, "Noughts", crc.Noughts(crc.Noughts(a, n), m), crc.Noughts(a, n+m))
			}
		}
	}
}

func TestWhatIsSealedIsOpened(t *testing.T) {
	d := dice(12)
	for n := range 300 {
		b := d.bytes(n)
		wantOpen(t, crc.Seal(b), b)
	}
	again := []byte("again")
	for range 5 {
		again = crc.Seal(again)
	}
	for range 5 {
		b, e := crc.Open(again)
		if e != api.OK {
			t.Fatalf("Open: error %d", e)
		}
		again = b
	}
	if string(again) != "again" {
		t.Fatalf("sealed five times: %q", again)
	}
}

// turned is b with the bits of a pattern turned from a place on, of each byte from the lowest on; false: one of them lies behind the end.
func turned(b []byte, place int, pattern uint32) ([]byte, bool) {
	b = slices.Clone(b)
	for i := range 32 {
		if pattern>>i&1 == 0 {
			continue
		}
		at := place + i
		if at >= 8*len(b) {
			return nil, false
		}
		b[at/8] ^= 1 << (at % 8)
	}
	return b, true
}

// patterns are bits to turn: one, two and three of them, running ones, and others.
func patterns() []uint32 {
	var list []uint32
	for i := range 32 {
		list = append(list, 1|1<<i, math.MaxUint32>>i)
		for j := range i {
			list = append(list, 1|1<<j|1<<i)
		}
	}
	d := dice(13)
	for range 300 {
		list = append(list, d.throw()|1)
	}
	// What the sum itself is made by, in both directions, and what a wrong order of bytes or bits would let through.
	return append(list, poly, 0x04c11db7, 0x82608edb, 0xdb710641, 0x2083b8ed, 0xff, 0xff0000ff)
}

func TestTurnedBitsAreRefused(t *testing.T) {
	d := dice(14)
	for _, n := range []int{0, 1, 2, 3, 4, 5, 9, 16} {
		b := d.bytes(n)
		sealed := crc.Seal(b)
		for place := range 8 * len(sealed) {
			for _, p := range patterns() {
				wrong, ok := turned(sealed, place, p)
				if !ok {
					continue
				}
				if got, e := crc.Open(wrong); e != api.ErrSum || len(got) != 0 {
					t.Fatalf("%v, turned by %08x from bit %d on: %v, error %d", sealed, p, place, got, e)
				}
			}
		}
	}
}

func TestThirtyThreeBitsMayPass(t *testing.T) {
	// What makes the sum, turned as 33 bits running, is what no sum of 32 bits tells: the promise ends at 32.
	sealed := crc.Seal([]byte("123456789"))
	wrong, _ := turned(sealed, 8, 0xdb710641)
	wrong, _ = turned(wrong, 8+32, 1)
	b, e := crc.Open(wrong)
	if e != api.OK || bytes.Equal(b, []byte("123456789")) {
		t.Fatalf("Open: %q, error %d", b, e)
	}
}
