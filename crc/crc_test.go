package crc_test

import (
	"bytes"
	"hash/crc32"
	"math"
	"slices"
	"testing"

	"tabulary/api"
	"tabulary/crc"
)

const poly = 0xedb88320

// circle is how many bytes 0 leave every sum as it was: the powers of x come round behind 2^32 - 1.
const circle = 1<<32 - 1

// plainSum is the chapter's words, bit by bit.
func plainSum(b []byte) uint32 {
	bits := uint32(math.MaxUint32)
	for _, c := range b {
		bits ^= uint32(c)
		for range 8 {
			low := bits & 1
			bits >>= 1
			if low == 1 {
				bits ^= poly
			}
		}
	}
	return ^bits
}

// withSum is four bytes whose sum is s: the steps of plainSum, taken backwards.
func withSum(s uint32) []byte {
	bits := ^s
	for range 32 {
		if bits>>31 == 1 {
			bits = (bits^poly)<<1 | 1
		} else {
			bits <<= 1
		}
	}
	return fourBytes(^bits)
}

func fourBytes(s uint32) []byte {
	return []byte{byte(s), byte(s >> 8), byte(s >> 16), byte(s >> 24)}
}

// dice throws the same numbers each time.
type dice uint64

func (d *dice) throw() uint32 {
	*d = *d*6364136223846793005 + 1442695040888963407
	return uint32(*d >> 32)
}

func (d *dice) bytes(n int) []byte {
	b := make([]byte, n)
	for i := range b {
		b[i] = byte(d.throw() >> 24)
	}
	return b
}

// someSums are edges of the 32 bits, and others.
func someSums() []uint32 {
	sums := []uint32{0, 1, 2, 1 << 31, math.MaxUint32, math.MaxUint32 - 1, poly, 0xcbf43926}
	d := dice(7)
	for range 40 {
		sums = append(sums, d.throw())
	}
	return sums
}

func wantSum(t *testing.T, what string, got, need uint32) {
	t.Helper()
	if got != need {
		t.Fatalf("%s: %08x, not %08x", what, got, need)
	}
}

func wantOpen(t *testing.T, sealed, need []byte) {
	t.Helper()
	b, e := crc.Open(sealed)
	if e != api.OK || !bytes.Equal(b, need) {
		t.Fatalf("Open(%v): %v, error %d, not %v", sealed, b, e, need)
	}
}

func wantRefusal(t *testing.T, sealed []byte, need api.Errno) {
	t.Helper()
	b, e := crc.Open(sealed)
	if e != need || len(b) != 0 {
		t.Fatalf("Open(%v): %v, error %d, not %d", sealed, b, e, need)
	}
}

// P2.1

func TestSumExamples(t *testing.T) {
	wantSum(t, "123456789", crc.Sum([]byte("123456789")), 0xcbf43926)
	wantSum(t, "nil", crc.Sum(nil), 0)
	wantSum(t, "nothing", crc.Sum([]byte{}), 0)
	wantSum(t, "a", crc.Sum([]byte("a")), 0xe8b7be43)
	wantSum(t, "a byte 0", crc.Sum([]byte{0}), 0xd202ef8d)
	wantSum(t, "four bytes 255", crc.Sum([]byte{255, 255, 255, 255}), math.MaxUint32)
}

func TestSumOfEachByte(t *testing.T) {
	for c := range 256 {
		b := []byte{byte(c)}
		wantSum(t, "one byte", crc.Sum(b), plainSum(b))
		wantSum(t, "behind another", crc.Sum([]byte{165, byte(c)}), plainSum([]byte{165, byte(c)}))
	}
}

func TestSumOfManyLengths(t *testing.T) {
	d := dice(1)
	for n := range 600 {
		b := d.bytes(n)
		wantSum(t, "bit by bit", crc.Sum(b), plainSum(b))
		wantSum(t, "IEEE", crc.Sum(b), crc32.ChecksumIEEE(b))
	}
	long := d.bytes(1 << 20)
	wantSum(t, "long", crc.Sum(long), crc32.ChecksumIEEE(long))
}

func TestSumReadsToTheLengthAlone(t *testing.T) {
	b := []byte("123456789 and more")
	wantSum(t, "with spare room", crc.Sum(b[:9]), 0xcbf43926)
	if string(b) != "123456789 and more" {
		t.Fatalf("changed: %q", b)
	}
}

// P2.2

func TestNoughtsOfBytes(t *testing.T) {
	d := dice(2)
	for n := range 70 {
		b := d.bytes(n % 13)
		wantSum(t, "Noughts", crc.Noughts(crc.Sum(b), n), plainSum(append(b, make([]byte, n)...)))
	}
	b := []byte("123456789")
	for _, n := range []int{255, 256, 257, 65535, 65536, 1<<20 - 1, 1 << 20} {
		wantSum(t, "many", crc.Noughts(crc.Sum(b), n), crc32.ChecksumIEEE(append(slices.Clone(b), make([]byte, n)...)))
	}
}

func TestNoughtsOfAnySum(t *testing.T) {
	for _, a := range someSums() {
		b := withSum(a)
		wantSum(t, "withSum", plainSum(b), a)
		for _, n := range []int{0, 1, 2, 3, 4, 5, 17, 1000} {
			wantSum(t, "Noughts", crc.Noughts(a, n), plainSum(append(slices.Clone(b), make([]byte, n)...)))
		}
	}
}

func TestJoinExamples(t *testing.T) {
	wantSum(t, "1234 56789", crc.Join(crc.Sum([]byte("1234")), crc.Sum([]byte("56789")), 5), 0xcbf43926)
	wantSum(t, "nothing behind", crc.Join(0xcbf43926, 0, 0), 0xcbf43926)
	wantSum(t, "nothing ahead", crc.Join(0, 0xcbf43926, 9), 0xcbf43926)
	wantSum(t, "nothing at all", crc.Join(0, 0, 0), 0)
}

func TestJoinOfAnySums(t *testing.T) {
	sums, d := someSums(), dice(9)
	for i, a := range sums {
		b := sums[(i*5+3)%len(sums)]
		for _, n := range []int{4, 5, 6, 11, 300} {
			first := d.bytes(n - 4)
			others := append(slices.Clone(first), withSumBehind(first, b)...)
			wantSum(t, "of the others", plainSum(others), b)
			wantSum(t, "Join", crc.Join(a, b, n), plainSum(append(withSum(a), others...)))
		}
	}
}

// withSumBehind is four bytes that make the sum s behind others.
func withSumBehind(others []byte, s uint32) []byte {
	// Four bytes 0 behind others, and the four that make s: both sums are of as many bytes, so what tells them apart goes in by the exclusive or.
	noughts := plainSum(append(slices.Clone(others), 0, 0, 0, 0))
	made, still := withSum(s), withSum(noughts)
	for i := range made {
		made[i] ^= still[i]
	}
	return made
}

func TestNumbersBelowNoughtCountAsNought(t *testing.T) {
	for _, a := range someSums() {
		for _, n := range []int{0, -1, -2, -8, math.MinInt32, math.MinInt + 1, math.MinInt} {
			wantSum(t, "Noughts", crc.Noughts(a, n), a)
			wantSum(t, "Join with nothing", crc.Join(a, 0, n), a)
			for _, b := range someSums() {
				wantSum(t, "Join", crc.Join(a, b, n), a^b)
			}
		}
	}
}

func TestGreatNumbers(t *testing.T) {
	for _, a := range someSums() {
		b := withSum(a)
		for r := range 10 {
			near := plainSum(append(slices.Clone(b), make([]byte, r)...))
			for _, times := range []int{1, 2, 3, 1 << 16, 1<<31 - 2} {
				wantSum(t, "Noughts", crc.Noughts(a, circle*times+r), near)
				wantSum(t, "Join", crc.Join(a, 77, circle*times+r), near^plainSum(make([]byte, r))^77)
			}
		}
		wantSum(t, "the greatest", crc.Noughts(a, math.MaxInt), crc.Noughts(a, math.MaxInt%circle))
		wantSum(t, "round", crc.Noughts(crc.Noughts(a, 1<<31-1), 1<<31), a)
	}
}

func TestGreatNumbersTakeFewSteps(t *testing.T) {
	a, b := uint32(1), uint32(1)
	for range 20000 { // with as many steps as n, one call alone would not end
		a, b = crc.Noughts(a, math.MaxInt), crc.Join(b, a, math.MaxInt-1)
	}
	if a == b {
		t.Fatal("both went the same way")
	}
}

// P2.3

func TestSeal(t *testing.T) {
	for _, c := range []struct{ b, need []byte }{
		{nil, []byte{0, 0, 0, 0}},
		{[]byte{}, []byte{0, 0, 0, 0}},
		{[]byte("123456789"), []byte("123456789\x26\x39\xf4\xcb")},
		{[]byte("a"), []byte("a\x43\xbe\xb7\xe8")},
		{[]byte{255, 255, 255, 255}, []byte{255, 255, 255, 255, 255, 255, 255, 255}},
	} {
		if got := crc.Seal(c.b); !bytes.Equal(got, c.need) {
			t.Fatalf("Seal(%v): %v, not %v", c.b, got, c.need)
		}
		wantOpen(t, c.need, c.b)
	}
}

func TestOpenOfFewBytes(t *testing.T) {
	wantRefusal(t, nil, api.ErrShort)
	for n := range 4 {
		wantRefusal(t, make([]byte, n), api.ErrShort)
		wantRefusal(t, make([]byte, n, 4), api.ErrShort)
		wantRefusal(t, []byte("abcd")[:n], api.ErrShort)
	}
	wantOpen(t, make([]byte, 4), nil)
	wantRefusal(t, []byte("abcd"), api.ErrSum)
	wantRefusal(t, []byte{1, 0, 0, 0}, api.ErrSum)
	wantRefusal(t, []byte{0, 0, 0, 1}, api.ErrSum)
	wantRefusal(t, make([]byte, 5), api.ErrSum)
}

func TestOpenOfWrongSums(t *testing.T) {
	d := dice(4)
	for n := range 40 {
		b := d.bytes(n)
		s := plainSum(b)
		wantOpen(t, append(slices.Clone(b), fourBytes(s)...), b)
		for _, wrong := range []uint32{s + 1, s - 1, ^s, s ^ 1<<31, s<<8 | s>>24, d.throw()} {
			if wrong != s {
				wantRefusal(t, append(slices.Clone(b), fourBytes(wrong)...), api.ErrSum)
			}
		}
		if back := fourBytes(s); s != 0 {
			slices.Reverse(back)
			wantRefusal(t, append(slices.Clone(b), back...), api.ErrSum)
		}
		wantRefusal(t, append(crc.Seal(b), 0), api.ErrSum)
	}
}

func TestSealKeepsToItsOwnMemory(t *testing.T) {
	room := []byte("abc and more of it")
	sealed := crc.Seal(room[:3])
	if string(room) != "abc and more of it" {
		t.Fatalf("Seal wrote into its argument: %q", room)
	}
	need := slices.Clone(sealed)
	for i := range room {
		room[i] = 'x'
	}
	if !bytes.Equal(sealed, need) {
		t.Fatalf("Seal hands out its argument: %v, not %v", sealed, need)
	}
	first, second := crc.Seal([]byte("abc")), crc.Seal([]byte("abc"))
	clear(first[:cap(first)])
	if !bytes.Equal(second, need) {
		t.Fatal("two answers share memory")
	}
}

func TestOpenKeepsToItsOwnMemory(t *testing.T) {
	for _, text := range []string{"abc", ""} {
		sealed := crc.Seal([]byte(text))
		before := slices.Clone(sealed)
		b, e := crc.Open(sealed)
		if e != api.OK || string(b) != text {
			t.Fatalf("Open: %q, error %d", b, e)
		}
		for i := range b[:cap(b)] {
			b[:cap(b)][i] = 'x'
		}
		if !bytes.Equal(sealed, before) {
			t.Fatalf("Open hands out its argument: %v, not %v", sealed, before)
		}
	}
}
