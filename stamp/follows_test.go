package stamp_test

import (
	"bytes"
	"math"
	"slices"
	"testing"

	"tabulary/api"
	"tabulary/disk"
	"tabulary/stamp"
)

// dice throws the same numbers each time.
type dice uint64

func (d *dice) throw() uint64 {
	*d = *d*6364136223846793005 + 1442695040888963407
	return uint64(*d>>32)<<32 ^ uint64(*d>>16)
}

func (d *dice) below(n int) int { return int(d.throw()>>33) % n }

func (d *dice) bytes(n int) []byte {
	b := make([]byte, n)
	for i := range b {
		b[i] = byte(d.throw() >> 40)
	}
	return b
}

// mark is one of the edges, or any.
func (d *dice) mark() uint64 {
	if l := stamps(); d.below(2) == 0 {
		return l[d.below(len(l))]
	}
	return d.throw() | 1
}

func (d *dice) kind() byte { return byte(1 + d.below(255)) }

func (d *dice) body() []byte {
	if l := lengths(); d.below(2) == 0 {
		return d.bytes(l[d.below(len(l))])
	}
	return d.bytes(d.below(234))
}

// sector is a right one.
func (d *dice) sector() []byte {
	body := d.body()
	return wrapByWords(d.mark(), d.kind(), len(body), body)
}

// openByWords asks the chapter's words one behind the other.
func openByWords(b []byte) (uint64, byte, []byte, api.Errno) {
	if len(b) != 256 {
		return 0, 0, nil, api.ErrShort
	}
	mark, again, sum := uint64(0), uint64(0), uint32(0)
	for i := range 8 {
		mark, again = mark*256+uint64(b[i]), again*256+uint64(b[248+i])
	}
	for i := 3; i >= 0; i-- {
		sum = sum*256 + uint32(b[244+i])
	}
	if mark == 0 {
		return 0, 0, nil, api.ErrNone
	}
	if mark != again {
		return 0, 0, nil, api.ErrStale
	}
	if sum != plainSum(b[:244]) {
		return 0, 0, nil, api.ErrSum
	}
	if b[8] == 0 || b[9] > 233 {
		return 0, 0, nil, api.ErrForm
	}
	for i := 10 + int(b[9]); i < 244; i++ {
		if b[i] != 0 {
			return 0, 0, nil, api.ErrForm
		}
	}
	return mark, b[8], b[10 : 10+int(b[9])], api.OK
}

// broken is a sector some of whose parts are others; its sum and its last stamp are mostly right again.
func (d *dice) broken() []byte {
	b := d.sector()
	switch d.below(8) {
	case 0:
		clear(b[:8])
	case 1:
		b[8] = 0
	case 2:
		b[9] = byte(d.throw())
	case 3:
		b[9] = byte(232 + d.below(4))
	case 4:
		b[d.below(8)] ^= 1 << d.below(8)
	case 5:
		for range 1 + d.below(3) {
			b[d.below(256)] ^= 1 << d.below(8)
		}
	case 6:
		b[[]int{0, 7, 8, 9, 10, 242, 243, 244, 247, 248, 255}[d.below(11)]] = byte(d.throw())
	}
	if d.below(4) > 0 {
		copy(b[248:], b[:8])
	}
	if d.below(4) > 0 {
		b = summed(b)
	}
	if d.below(20) == 0 {
		b = append(b, b...)[:250+d.below(12)]
	}
	return b
}

// P7.2, by the chapter's words

func TestOpenByTheChaptersWords(t *testing.T) {
	d, told := dice(7), map[api.Errno]int{}
	for range 50000 {
		told[wantAsByWords(t, d.broken())]++
	}
	for _, e := range []api.Errno{api.OK, api.ErrShort, api.ErrNone, api.ErrStale, api.ErrSum, api.ErrForm} {
		if told[e] < 1000 {
			t.Errorf("%d is told %d times: too few to tell", e, told[e])
		}
	}
}

// Bytes of any kind end in a sector's parts or in an error, and in nothing beside it.
func TestOpenOfAnyBytes(t *testing.T) {
	d := dice(77)
	for range 20000 {
		b := d.bytes(254 + d.below(4))
		for range d.below(200) {
			b[d.below(len(b))] = 0
		}
		if e := wantAsByWords(t, b); e == api.OK {
			t.Fatalf("%v is a sector", b)
		}
	}
}

// P7.4

func TestWhatIsWrappedIsOpened(t *testing.T) {
	d := dice(777)
	for range 20000 {
		mark, kind, body := d.mark(), d.kind(), d.body()
		b := wrap(t, mark, kind, body)
		if !bytes.Equal(b, wrapByWords(mark, kind, len(body), body)) {
			t.Fatalf("Wrap(%d, %d, %v): %v", mark, kind, body, b)
		}
		wantOpen(t, b, mark, kind, body)
	}
}

func TestWhatIsOpenedAndWrappedAgainIsTheSameBytes(t *testing.T) {
	d, opened := dice(70), 0
	for range 20000 {
		b := d.broken()
		mark, kind, body, e := stamp.Open(b)
		if e != api.OK {
			wantNoWrap(t, mark, kind, body, api.ErrInvalid)
			continue
		}
		opened++
		wantWrap(t, mark, kind, body, b)
	}
	if opened < 2000 {
		t.Errorf("%d are opened: too few to tell", opened)
	}
}

// wantTornRefused tears a write at each place: what is left is opened where it is all of the one or of the other, and nowhere else.
func wantTornRefused(t *testing.T, old, young []byte) {
	t.Helper()
	for at := -1; at <= 257; at++ {
		left := stamp.Torn(old, young, at)
		switch {
		case len(left) != 256:
			t.Fatalf("%d bytes are left", len(left))
		case bytes.Equal(left, old), bytes.Equal(left, young):
			wantAsByWords(t, left)
		default:
			if m, k, b, e := stamp.Open(left); e != api.ErrStale && e != api.ErrNone || m != 0 || k != 0 || len(b) != 0 {
				t.Fatalf("torn at %d: %d, %d, %v, error %d:\n%v over\n%v", at, m, k, b, e, young, old)
			}
		}
	}
}

// wantAsByWords holds Open against the chapter's words.
func wantAsByWords(t *testing.T, b []byte) api.Errno {
	t.Helper()
	mark, kind, body, e := openByWords(b)
	if e == api.OK {
		wantOpen(t, b, mark, kind, body)
	} else {
		wantRefusal(t, b, e)
	}
	return e
}

func TestTornOverAnotherStamp(t *testing.T) {
	for _, a := range stamps() {
		for _, b := range stamps() {
			if a == b {
				continue
			}
			// Bodies of the same bytes, so that stamps and sums alone tell the sectors apart; then others.
			wantTornRefused(t, wrap(t, a, 1, []byte("abc")), wrap(t, b, 1, []byte("abc")))
			wantTornRefused(t, wrap(t, a, 255, nil), wrap(t, b, 1, counted(233)))
		}
	}
	d := dice(71)
	for range 500 {
		old, young := d.sector(), d.sector()
		if !bytes.Equal(old[:8], young[:8]) {
			wantTornRefused(t, old, young)
		}
	}
}

func TestTornOverBytesNought(t *testing.T) {
	for _, mark := range stamps() {
		for _, n := range lengths() {
			wantTornRefused(t, make([]byte, 256), wrap(t, mark, 1, counted(n)))
			wantTornRefused(t, make([]byte, 256), wrap(t, mark, 1, make([]byte, n)))
		}
	}
}

// forge changes four bytes of b so that its sum is s: the bits that the bytes ahead leave, and those that the bytes behind need, are held against each other in their midst.
func forge(b []byte, at int, s uint32) {
	ahead, need := ^plainSum(b[:at]), ^s
	back := func() {
		for range 8 {
			if need>>31 == 1 {
				need = (need^0xedb88320)<<1 | 1
			} else {
				need <<= 1
			}
		}
	}
	for i := len(b) - 1; i >= at+4; i-- {
		back()
		need ^= uint32(b[i])
	}
	for range 4 {
		back()
	}
	for i := range 4 {
		b[at+i] = byte((ahead ^ need) >> (8 * i))
	}
}

func TestTornWhateverSumsAre(t *testing.T) {
	d := dice(72)
	for range 200 {
		old, young := wrapByWords(d.mark(), 1, 233, d.bytes(233)), wrapByWords(d.mark(), 2, 233, d.bytes(233))
		if bytes.Equal(old[:8], young[:8]) {
			continue
		}
		at := 14 + d.below(231)
		mixed := append(slices.Clone(young[:at]), old[at:244]...)
		forge(old[:244], 10, plainSum(mixed)) // the bytes that it changes are gone where the write is torn
		old = summed(old)
		left := stamp.Torn(old, young, at)
		if !bytes.Equal(summed(left), left) || bytes.Equal(left, old) {
			t.Fatal("the sum of what is left is not right: it is not asked whether that counts")
		}
		wantRefusal(t, left, api.ErrStale)
		wantTornRefused(t, old, young)
	}
}

func TestTornWithTheSameSum(t *testing.T) {
	d := dice(73)
	for range 200 {
		old, young := wrapByWords(d.mark(), 1, 4, d.bytes(4)), wrapByWords(d.mark(), 1, 4, d.bytes(4))
		if bytes.Equal(old[:8], young[:8]) {
			continue
		}
		forge(young[:244], 10, plainSum(old[:244]))
		young = summed(young)
		if !bytes.Equal(old[244:248], young[244:248]) {
			t.Fatal("the sums are not the same")
		}
		wantTornRefused(t, old, young)
		wantTornRefused(t, young, old)
	}
}

// What Torn tells is what a disk has that loses power.
func TestTornAsADiskTearsIt(t *testing.T) {
	old, young := wrap(t, 5, 1, counted(100)), wrap(t, unlike, 2, counted(233))
	for at := range 257 {
		d, _ := disk.New(1)
		d.Write(0, old)
		d.Sync()
		d.Write(0, young)
		after, _ := d.Lose(api.Loss{Torn: 0, At: at})
		left, e := after.Read(0)
		if e != api.OK || !bytes.Equal(left, stamp.Torn(old, young, at)) {
			t.Fatalf("torn at %d: the disk has %v, error %d", at, left, e)
		}
	}
}

// patterns are bits to turn: one, two, running ones, and others, at most 32 of them running.
func patterns() []uint32 {
	var l []uint32
	for i := range 32 {
		l = append(l, 1|1<<i, math.MaxUint32>>i)
	}
	d := dice(74)
	for range 60 {
		l = append(l, uint32(d.throw()>>20)|1)
	}
	// What the sum itself is made by, in both directions.
	return append(l, 0xedb88320, 0x04c11db7, 0x82608edb, 0xdb710641, 0xff0000ff)
}

// turned is a sector with the bits of a pattern turned from a place on, of each byte from the lowest on; false: one of them is not among the first 248 bytes.
func turned(b []byte, place int, pattern uint32) ([]byte, bool) {
	b = slices.Clone(b)
	for i := range 32 {
		if pattern>>i&1 == 0 {
			continue
		}
		at := place + i
		if at >= 8*248 {
			return nil, false
		}
		b[at/8] ^= 1 << (at % 8)
	}
	return b, true
}

func TestTurnedBitsAreRefused(t *testing.T) {
	all := patterns()
	for _, right := range [][]byte{wrap(t, 1, 1, nil), wrap(t, unlike, 255, counted(233)), wrap(t, 255, 1, make([]byte, 20))} {
		for place := range 8 * 248 {
			for _, p := range all {
				wrong, ok := turned(right, place, p)
				if !ok {
					continue
				}
				need := api.ErrSum
				switch {
				case bytes.Equal(wrong[:8], make([]byte, 8)):
					need = api.ErrNone
				case !bytes.Equal(wrong[:8], right[:8]):
					need = api.ErrStale
				}
				wantRefusal(t, wrong, need)
			}
		}
	}
}
