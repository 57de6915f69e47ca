package master_test

import (
	"bytes"
	"hash/crc32"
	"math"
	"slices"
	"testing"

	"tabulary/api"
	"tabulary/disk"
	"tabulary/master"
)

// greatest is the greatest epoch.
const greatest = 1000000000

// uintByWords is chapter 3's words: groups of 7 bits, the lowest first.
func uintByWords(n uint64) []byte {
	var b []byte
	for n >= 128 {
		b = append(b, byte(n%128+128))
		n /= 128
	}
	return append(b, byte(n))
}

// bodyByWords is how many fields there are, and each.
func bodyByWords(fields []uint64) []byte {
	b := uintByWords(uint64(len(fields)))
	for _, f := range fields {
		b = append(b, uintByWords(f)...)
	}
	return b
}

// eightByWords is a stamp, the highest byte first.
func eightByWords(n uint64) []byte {
	var b []byte
	for i := 7; i >= 0; i-- {
		b = append(b, byte(n>>(8*i)))
	}
	return b
}

// sectorByWords is chapter 7's words, byte by byte.
func sectorByWords(mark uint64, kind byte, body []byte) []byte {
	b := append(eightByWords(mark), kind, byte(len(body)))
	b = append(b, body...)
	b = append(b, make([]byte, 244-len(b))...)
	s := crc32.ChecksumIEEE(b)
	b = append(b, byte(s), byte(s>>8), byte(s>>16), byte(s>>24))
	return append(b, eightByWords(mark)...)
}

// slotByWords is the sector of a slot.
func slotByWords(fields []uint64, epoch int) []byte {
	return sectorByWords(uint64(epoch), 3, bodyByWords(fields))
}

// resummed is a sector with the sum, and the last stamp, that its other bytes need.
func resummed(b []byte) []byte {
	b = slices.Clone(b)
	s := crc32.ChecksumIEEE(b[:244])
	copy(b[244:], []byte{byte(s), byte(s >> 8), byte(s >> 16), byte(s >> 24)})
	copy(b[248:], b[:8])
	return b
}

func newDisk(t *testing.T, n int) *disk.Disk {
	t.Helper()
	d, e := disk.New(n)
	if e != api.OK {
		t.Fatalf("New(%d): error %d", n, e)
	}
	return d
}

// laid is a disk of n sectors, with some from a place on; nil: one of bytes 0.
func laid(t *testing.T, n, at int, sectors ...[]byte) *disk.Disk {
	t.Helper()
	d := newDisk(t, n)
	for i, s := range sectors {
		if s == nil {
			continue
		}
		if e := d.Write(at+i, s); e != api.OK {
			t.Fatalf("Write: error %d", e)
		}
	}
	d.Sync()
	return d
}

func open(t *testing.T, d *disk.Disk, at int) *master.Master {
	t.Helper()
	m, e := master.Open(d, at)
	if e != api.OK || m == nil {
		t.Fatalf("Open(%d): error %d", at, e)
	}
	return m
}

func wantNoMaster(t *testing.T, d *disk.Disk, at int, need api.Errno) {
	t.Helper()
	if m, e := master.Open(d, at); e != need || m != nil {
		t.Fatalf("Open(%d): %v, error %d, not %d", at, m, e, need)
	}
}

func wantSave(t *testing.T, m *master.Master, fields []uint64, epoch int, need api.Errno) {
	t.Helper()
	if e := m.Save(fields, epoch); e != need {
		t.Fatalf("Save(%d fields, %d): error %d, not %d", len(fields), epoch, e, need)
	}
}

func wantNone(t *testing.T, m *master.Master) {
	t.Helper()
	if f, n, ok := m.Latest(); ok || n != 0 || len(f) != 0 || m.Slot() != -1 {
		t.Fatalf("Latest: %v, %d, %v in the slot %d, and there is none", f, n, ok, m.Slot())
	}
}

func wantLatest(t *testing.T, m *master.Master, fields []uint64, epoch, slot int) {
	t.Helper()
	if f, n, ok := m.Latest(); !ok || n != epoch || !slices.Equal(f, fields) || m.Slot() != slot {
		t.Fatalf("Latest: %v, %d, %v in the slot %d, not %v, %d in the slot %d", f, n, ok, m.Slot(), fields, epoch, slot)
	}
}

// wantDisk asks what all sectors of a disk have: those that are not handed in are of bytes 0.
func wantDisk(t *testing.T, d *disk.Disk, at int, sectors ...[]byte) {
	t.Helper()
	for i := range d.Size() {
		need := make([]byte, 256)
		if i >= at && i < at+len(sectors) && sectors[i-at] != nil {
			need = sectors[i-at]
		}
		if s, e := d.Read(i); e != api.OK || !bytes.Equal(s, need) {
			t.Fatalf("sector %d (error %d):\n%v, not\n%v", i, e, s, need)
		}
	}
}

// counted has n fields, of unlike lengths.
func counted(n int) []uint64 {
	l := make([]uint64, n)
	for i := range l {
		l[i] = uint64(i+1) << (3 * i % 64)
	}
	return l
}

// several are lists of fields: none, one, some, as many as there may be.
func several() [][]uint64 {
	return [][]uint64{nil, {}, {0}, {1}, {127}, {128}, {math.MaxUint64}, {5, 300}, {300, 5}, {0, 0, 0}, counted(19), counted(20), make([]uint64, 20), slices.Repeat([]uint64{math.MaxUint64}, 20), slices.Repeat([]uint64{1 << 63}, 20)}
}

// P10.1

func TestExample(t *testing.T) {
	d := newDisk(t, 2)
	m := open(t, d, 0)
	wantNone(t, m)
	wantSave(t, m, []uint64{5, 300}, 1, api.OK)
	if d.Steps() != 2 || len(d.Pending()) != 0 {
		t.Fatalf("Save: %d steps, %v wait", d.Steps(), d.Pending())
	}
	wantLatest(t, m, []uint64{5, 300}, 1, 0)
	wantSave(t, m, nil, 1, api.ErrInvalid)
	wantLatest(t, m, []uint64{5, 300}, 1, 0)
	wantSave(t, m, nil, 2, api.OK)
	wantLatest(t, m, nil, 2, 1)
	if d.Steps() != 4 {
		t.Fatalf("%d steps", d.Steps())
	}
	wantLatest(t, open(t, d, 0), nil, 2, 1)
}

func TestOpenOfNoDisk(t *testing.T) {
	for _, d := range []*disk.Disk{nil, {}} {
		for _, at := range []int{0, 1, -1, -2, math.MinInt, math.MaxInt, math.MaxInt - 1, math.MaxInt32} {
			wantNoMaster(t, d, at, api.ErrNil)
		}
	}
}

func TestOpenOfPlaces(t *testing.T) {
	for _, size := range []int{1, 2, 3, 8, 4095, 4096} {
		d := newDisk(t, size)
		for _, at := range []int{0, 1, 2, size / 2, size - 3, size - 2} {
			if at >= 0 && at+1 < size {
				wantNone(t, open(t, d, at))
			}
		}
		for _, at := range []int{size - 1, size, size + 1, 4096, -1, -2, -size, math.MinInt32, math.MinInt, math.MinInt + 1, math.MaxInt32, math.MaxInt - 1, math.MaxInt} {
			wantNoMaster(t, d, at, api.ErrInvalid)
		}
	}
}

func TestOpenWithoutPower(t *testing.T) {
	d := laid(t, 4, 1, slotByWords([]uint64{7}, 3))
	for _, n := range []int{3, 2, 1} { // a Read is no step: the power stays on
		d.Cut(n)
		wantLatest(t, open(t, d, 1), []uint64{7}, 3, 0)
	}
	d.Cut(0)
	for at := range 3 {
		wantNoMaster(t, d, at, api.ErrDown)
	}
	for _, at := range []int{-1, 3, 4, math.MinInt, math.MaxInt} {
		wantNoMaster(t, d, at, api.ErrInvalid)
	}
}

func TestOpenWritesNothing(t *testing.T) {
	torn := slotByWords(counted(20), 9)
	torn[100] ^= 1
	for _, s := range [][]byte{nil, slotByWords([]uint64{7}, 3), torn} {
		for _, o := range [][]byte{nil, slotByWords([]uint64{8}, 4), torn} {
			d := laid(t, 4, 1, s, o)
			steps := d.Steps()
			m := open(t, d, 1)
			m.Latest()
			m.Slot()
			if d.Steps() != steps || len(d.Pending()) != 0 {
				t.Fatal("something is written")
			}
			wantDisk(t, d, 1, s, o)
		}
	}
}

func TestOpenReadsWhatWaits(t *testing.T) {
	d := laid(t, 3, 0, nil, slotByWords([]uint64{7}, 3))
	d.Write(2, slotByWords([]uint64{8}, 4))
	wantLatest(t, open(t, d, 1), []uint64{8}, 4, 1)
	wantLatest(t, open(t, d, 0), []uint64{7}, 3, 1)
	if !slices.Equal(d.Pending(), []int{2}) {
		t.Fatal("Open syncs")
	}
}

// The sectors at and at + 1 are the slots, and no other ones.
func TestOpenElsewhere(t *testing.T) {
	d := laid(t, 8, 3, slotByWords([]uint64{1}, 5), slotByWords([]uint64{2}, 6))
	wantLatest(t, open(t, d, 3), []uint64{2}, 6, 1)
	wantLatest(t, open(t, d, 2), []uint64{1}, 5, 1)
	wantLatest(t, open(t, d, 4), []uint64{2}, 6, 0)
	for _, at := range []int{0, 1, 5, 6} {
		wantNone(t, open(t, d, at))
	}
}

// wantStands asks that a sector stands, in each of the slots, and beside an older one, too.
func wantStands(t *testing.T, s []byte, fields []uint64, epoch int) {
	t.Helper()
	wantLatest(t, open(t, laid(t, 2, 0, s, nil), 0), fields, epoch, 0)
	wantLatest(t, open(t, laid(t, 2, 0, nil, s), 0), fields, epoch, 1)
	if epoch > 1 {
		old := slotByWords([]uint64{77}, epoch-1)
		wantLatest(t, open(t, laid(t, 2, 0, s, old), 0), fields, epoch, 0)
		wantLatest(t, open(t, laid(t, 2, 0, old, s), 0), fields, epoch, 1)
	}
}

// wantStandsNot asks that a sector does not stand, and leaves the other slot as it is.
func wantStandsNot(t *testing.T, s []byte) {
	t.Helper()
	wantNone(t, open(t, laid(t, 2, 0, s, nil), 0))
	wantNone(t, open(t, laid(t, 2, 0, nil, s), 0))
	wantNone(t, open(t, laid(t, 2, 0, s, s), 0))
	other := slotByWords([]uint64{77, 78}, 1)
	wantLatest(t, open(t, laid(t, 2, 0, s, other), 0), []uint64{77, 78}, 1, 1)
	wantLatest(t, open(t, laid(t, 2, 0, other, s), 0), []uint64{77, 78}, 1, 0)
}

func TestWhatStands(t *testing.T) {
	for _, fields := range several() {
		for _, epoch := range []int{1, 2, 255, 256, 65536, greatest - 1, greatest} {
			wantStands(t, slotByWords(fields, epoch), fields, epoch)
		}
	}
}

func TestAnotherEpochDoesNotStand(t *testing.T) {
	body := bodyByWords([]uint64{5, 300})
	for _, mark := range []uint64{greatest + 1, greatest + 2, 1 << 30, math.MaxInt32, math.MaxUint32, 1<<32 + 1, 1 << 62, math.MaxInt64, 1 << 63, 1<<63 + 1, math.MaxUint64} {
		wantStandsNot(t, sectorByWords(mark, 3, body))
	}
	wantStandsNot(t, sectorByWords(0, 3, body))
	wantStands(t, sectorByWords(greatest, 3, body), []uint64{5, 300}, greatest)
}

func TestAnotherKindDoesNotStand(t *testing.T) {
	for kind := range 256 {
		if kind != 3 {
			wantStandsNot(t, sectorByWords(9, byte(kind), bodyByWords([]uint64{5, 300})))
		}
	}
}

func TestAnotherBodyDoesNotStand(t *testing.T) {
	for _, body := range [][]byte{
		nil,                                     // not even a number
		{0, 0},                                  // a byte behind no field
		{1},                                     // no field where one is told
		{1, 5, 0},                               // a byte behind it
		{1, 5, 6},                               // a second one
		{2, 5},                                  // the second one is not there
		{128},                                   // the number ends within
		{128, 0},                                // 0 in more bytes than it needs
		{129, 0, 5},                             // 1 in more bytes than it needs
		{1, 128},                                // the field ends within
		{1, 128, 0},                             // 0 in more bytes than it needs
		{2, 5, 172},                             // 300 ends within
		{2, 5, 172, 130, 0},                     // 300 in more bytes than it needs
		append([]byte{21}, make([]byte, 21)...), // more than 20 fields
		append([]byte{22}, make([]byte, 22)...), // more than 20 fields
		append([]byte{128, 1}, make([]byte, 128)...),             // more than 20 fields
		append([]byte{231, 1}, make([]byte, 231)...),             // as many as a body has room for
		append([]byte{232, 1}, make([]byte, 231)...),             // more than are there
		append([]byte{20}, make([]byte, 19)...),                  // the 20th one is not there
		append([]byte{20}, make([]byte, 21)...),                  // a byte behind the 20th one
		append([]byte{20}, make([]byte, 232)...),                 // bytes behind it, just as many as there is room for
		bytes.Repeat([]byte{255}, 233),                           // a number without an end
		{255, 255, 255, 255, 255, 255, 255, 255, 255, 1},         // the greatest number
		{1, 255, 255, 255, 255, 255, 255, 255, 255, 255, 2},      // a field above 2 to the 64 less 1
		{1, 255, 255, 255, 255, 255, 255, 255, 255, 255, 255, 1}, // one of eleven bytes
		{1, 128, 128, 128, 128, 128, 128, 128, 128, 128, 0},      // 0 in ten bytes
	} {
		wantStandsNot(t, sectorByWords(9, 3, body))
	}
	wantStands(t, sectorByWords(9, 3, []byte{0}), nil, 9)
	wantStands(t, sectorByWords(9, 3, []byte{1, 255, 255, 255, 255, 255, 255, 255, 255, 255, 1}), []uint64{math.MaxUint64}, 9)
	wantStands(t, sectorByWords(9, 3, append([]byte{20}, make([]byte, 20)...)), make([]uint64, 20), 9)
}

// A body that is cut, or has a byte more, anywhere.
func TestABodyOfAnotherLengthDoesNotStand(t *testing.T) {
	for _, fields := range several() {
		body := bodyByWords(fields)
		for n := range body {
			wantStandsNot(t, sectorByWords(9, 3, body[:n]))
		}
		for _, b := range []byte{0, 1, 127, 128, 255} {
			wantStandsNot(t, sectorByWords(9, 3, append(slices.Clone(body), b)))
		}
	}
}

func TestASectorThatIsNotOpenedDoesNotStand(t *testing.T) {
	wantStandsNot(t, make([]byte, 256))
	wantStandsNot(t, bytes.Repeat([]byte{255}, 256))
	wantStandsNot(t, bytes.Repeat([]byte{3}, 256))
	right := slotByWords([]uint64{5, 300}, 9)
	for at := range 256 {
		wrong := slices.Clone(right)
		wrong[at] ^= 64
		wantStandsNot(t, wrong)
	}
	behind := slices.Clone(right) // a byte behind the body, and the right sum
	behind[243] = 1
	wantStandsNot(t, resummed(behind))
	long := slices.Clone(right) // more bytes than there is room for
	long[9] = 234
	wantStandsNot(t, resummed(long))
}

// P10.2

func TestOfNoMaster(t *testing.T) {
	for _, m := range []*master.Master{nil, {}} {
		wantNone(t, m)
		for _, epoch := range []int{1, 0, -1, greatest, greatest + 1, math.MinInt, math.MaxInt} {
			for _, n := range []int{0, 1, 20, 21, 300} {
				wantSave(t, m, make([]uint64, n), epoch, api.ErrNil)
			}
			wantSave(t, m, nil, epoch, api.ErrNil)
		}
		wantNone(t, m)
	}
}

func TestTheLatestOfTwo(t *testing.T) {
	epochs := []int{0, 1, 2, 3, 127, 128, 255, 256, 257, 65535, 65536, 1 << 24, greatest - 1, greatest}
	for _, a := range epochs {
		for _, b := range epochs {
			var s [2][]byte
			if a > 0 {
				s[0] = slotByWords([]uint64{10}, a)
			}
			if b > 0 {
				s[1] = slotByWords([]uint64{11, 12}, b)
			}
			m := open(t, laid(t, 4, 1, s[:]...), 1)
			switch {
			case a == 0 && b == 0:
				wantNone(t, m)
			case a >= b:
				wantLatest(t, m, []uint64{10}, a, 0)
			default:
				wantLatest(t, m, []uint64{11, 12}, b, 1)
			}
		}
	}
}

// The epoch decides, and neither the fields nor how many there are.
func TestTwoSlotsWithTheSameEpoch(t *testing.T) {
	for _, a := range several() {
		for _, b := range several() {
			d := laid(t, 2, 0, slotByWords(a, 7), slotByWords(b, 7))
			m := open(t, d, 0)
			wantLatest(t, m, a, 7, 0)
			wantSave(t, m, []uint64{1}, 7, api.ErrInvalid)
			wantSave(t, m, []uint64{1}, 8, api.OK)
			wantLatest(t, m, []uint64{1}, 8, 1)
			wantDisk(t, d, 0, slotByWords(a, 7), slotByWords([]uint64{1}, 8))
		}
	}
}

func TestLatestIsMemoryOfItsOwn(t *testing.T) {
	m := open(t, newDisk(t, 2), 0)
	given := counted(20)[:12]
	wantSave(t, m, given, 1, api.OK)
	for _, m := range []*master.Master{m, open(t, laid(t, 2, 0, slotByWords(counted(12), 1)), 0)} {
		for range 3 {
			f, _, _ := m.Latest()
			f = f[:cap(f)]
			for i := range f {
				f[i] = 99
			}
			wantLatest(t, m, counted(12), 1, 0)
		}
		a, _, _ := m.Latest()
		b, _, _ := m.Latest()
		clear(a[:cap(a)])
		if !slices.Equal(b, counted(12)) {
			t.Fatal("what is told twice is one memory")
		}
	}
	if !slices.Equal(given[:20], counted(20)) {
		t.Fatal("what was handed in is changed")
	}
}

// P10.3

func TestSaveWritesTheOtherSlot(t *testing.T) {
	d := newDisk(t, 6)
	m := open(t, d, 2)
	var s [2][]byte
	epoch := 0
	for i, fields := range append(several(), several()...) {
		epoch += 1 + i%3*100
		steps := d.Steps()
		wantSave(t, m, fields, epoch, api.OK)
		if d.Steps() != steps+2 || len(d.Pending()) != 0 {
			t.Fatalf("Save: %d steps, %v wait", d.Steps()-steps, d.Pending())
		}
		s[i%2] = slotByWords(fields, epoch)
		wantLatest(t, m, fields, epoch, i%2)
		wantDisk(t, d, 2, s[:]...)
		wantLatest(t, open(t, d, 2), fields, epoch, i%2)
	}
}

// A master that is opened anew ahead of each Save goes on as the one that it was.
func TestSaveBehindOpen(t *testing.T) {
	d := newDisk(t, 2)
	for i, fields := range several() {
		wantSave(t, open(t, d, 0), fields, i+1, api.OK)
		wantLatest(t, open(t, d, 0), fields, i+1, i%2)
	}
}

func TestASlotByteByByte(t *testing.T) {
	d := newDisk(t, 2)
	wantSave(t, open(t, d, 0), []uint64{5, 300}, 258, api.OK)
	need := make([]byte, 256)
	copy(need, []byte{0, 0, 0, 0, 0, 0, 1, 2, 3, 4, 2, 5, 172, 2})
	s := crc32.ChecksumIEEE(need[:244])
	copy(need[244:], []byte{byte(s), byte(s >> 8), byte(s >> 16), byte(s >> 24), 0, 0, 0, 0, 0, 0, 1, 2})
	wantDisk(t, d, 0, need)
}

func TestSaveGoesOverTheOneThatIsNotTheLatest(t *testing.T) {
	torn := slotByWords([]uint64{1}, 400)
	torn[11] ^= 1
	for _, x := range []struct {
		a, b []byte
		slot int
	}{
		{nil, nil, 0},
		{torn, nil, 0},
		{nil, torn, 0},
		{torn, torn, 0},
		{slotByWords(nil, 1), nil, 1},
		{slotByWords(nil, 1), torn, 1},
		{nil, slotByWords(nil, 1), 0},
		{torn, slotByWords(nil, 1), 0},
		{slotByWords(nil, 1), slotByWords(nil, 2), 0},
		{slotByWords(nil, 2), slotByWords(nil, 1), 1},
		{slotByWords(nil, 2), slotByWords(nil, 2), 1},
		{sectorByWords(9, 2, []byte{0}), nil, 0},
		{slotByWords(nil, 1), sectorByWords(9, 2, []byte{0}), 1},
		{sectorByWords(greatest+1, 3, []byte{0}), slotByWords(nil, 1), 0},
	} {
		d := laid(t, 4, 1, x.a, x.b)
		m := open(t, d, 1)
		steps := d.Steps()
		wantSave(t, m, []uint64{4}, 3, api.OK)
		wantLatest(t, m, []uint64{4}, 3, x.slot)
		if d.Steps() != steps+2 || len(d.Pending()) != 0 {
			t.Fatal("Save: not a Write and a Sync")
		}
		s := [2][]byte{x.a, x.b}
		s[x.slot] = slotByWords([]uint64{4}, 3)
		wantDisk(t, d, 1, s[:]...)
		wantLatest(t, open(t, d, 1), []uint64{4}, 3, x.slot)
	}
}

func TestSaveOfEpochs(t *testing.T) {
	for _, latest := range []int{0, 1, 2, 500, greatest - 2, greatest - 1, greatest} {
		for _, slot := range []int{0, 1} {
			var s [2][]byte
			if latest > 0 {
				s[slot] = slotByWords([]uint64{7}, latest)
			}
			for _, wrong := range []int{latest, latest - 1, latest - 2, 0, -1, -latest, math.MinInt32, math.MinInt, greatest + 1, greatest + 2, math.MaxInt32, math.MaxInt} {
				d := laid(t, 2, 0, s[:]...)
				steps := d.Steps()
				wantSave(t, open(t, d, 0), []uint64{1}, wrong, api.ErrInvalid)
				if d.Steps() != steps || len(d.Pending()) != 0 {
					t.Fatal("a Save that is refused writes")
				}
			}
			for _, right := range []int{latest + 1, latest + 2, greatest - 1, greatest} {
				if right <= latest || right > greatest {
					continue
				}
				d := laid(t, 2, 0, s[:]...)
				m := open(t, d, 0)
				wantSave(t, m, []uint64{1}, right, api.OK)
				other := 1 - slot
				if latest == 0 {
					other = 0
				}
				wantLatest(t, m, []uint64{1}, right, other)
				wantSave(t, m, []uint64{2}, right, api.ErrInvalid)
				wantLatest(t, m, []uint64{1}, right, other)
				wantLatest(t, open(t, d, 0), []uint64{1}, right, other)
			}
		}
	}
}

func TestSaveOfManyFields(t *testing.T) {
	for n := range 60 {
		for _, f := range []uint64{0, 127, 128, 1 << 62, math.MaxUint64} {
			d := newDisk(t, 2)
			m := open(t, d, 0)
			fields := slices.Repeat([]uint64{f}, n)
			if n <= 20 {
				wantSave(t, m, fields, 1, api.OK)
				wantLatest(t, open(t, d, 0), fields, 1, 0)
				continue
			}
			// From 24 fields of ten bytes on the body is above Room, too; of one byte each it is just Room with 231.
			wantSave(t, m, fields, 1, api.ErrBig)
			wantNone(t, m)
			wantDisk(t, d, 0)
		}
	}
	m := open(t, newDisk(t, 2), 0)
	for _, n := range []int{21, 22, 127, 128, 230, 231, 232, 233, 234, 255, 256, 257, 276, 1 << 16, 1<<16 + 5, 1 << 20} {
		wantSave(t, m, make([]uint64, n), 1, api.ErrBig)
	}
	long := counted(40)
	wantSave(t, m, long[:20], 1, api.OK) // what stands behind its length does not count
	wantLatest(t, m, counted(20), 1, 0)
}

func TestSaveTellsTheErrorThatIsNamedFirst(t *testing.T) {
	d := laid(t, 2, 0, slotByWords([]uint64{7}, 5))
	m := open(t, d, 0)
	ask := func(power api.Errno) {
		for _, epoch := range []int{5, 4, 0, -1, greatest + 1, math.MinInt, math.MaxInt} {
			for _, n := range []int{0, 20, 21, 300} {
				wantSave(t, m, make([]uint64, n), epoch, api.ErrInvalid)
			}
		}
		wantSave(t, m, make([]uint64, 21), 6, api.ErrBig)
		wantSave(t, m, make([]uint64, 300), greatest, api.ErrBig)
		wantLatest(t, m, []uint64{7}, 5, 0)
		wantSave(t, m, make([]uint64, 20), 6, power)
	}
	d.Cut(0)
	ask(api.ErrDown)
	if len(d.Pending()) != 0 {
		t.Fatal("a Save that is refused writes")
	}
	d = laid(t, 2, 0, slotByWords([]uint64{7}, 5))
	m = open(t, d, 0)
	ask(api.OK)
}

func TestSaveThatIsRefusedChangesNothing(t *testing.T) {
	d := newDisk(t, 2)
	m := open(t, d, 0)
	refused := func() {
		steps := d.Steps()
		wantSave(t, m, []uint64{9}, 0, api.ErrInvalid)
		wantSave(t, m, []uint64{9}, greatest+1, api.ErrInvalid)
		wantSave(t, m, make([]uint64, 21), greatest, api.ErrBig)
		if d.Steps() != steps || len(d.Pending()) != 0 {
			t.Fatal("a Save that is refused writes")
		}
	}
	refused()
	wantNone(t, m)
	wantDisk(t, d, 0)
	wantSave(t, m, []uint64{1}, 1, api.OK)
	refused()
	wantLatest(t, m, []uint64{1}, 1, 0)
	wantSave(t, m, []uint64{2}, 2, api.OK)
	refused()
	wantLatest(t, m, []uint64{2}, 2, 1)
	wantDisk(t, d, 0, slotByWords([]uint64{1}, 1), slotByWords([]uint64{2}, 2))
	wantSave(t, m, []uint64{3}, 3, api.OK)
	wantDisk(t, d, 0, slotByWords([]uint64{3}, 3), slotByWords([]uint64{2}, 2))
}

func TestSaveCutAtEachStep(t *testing.T) {
	for saved := range 4 {
		for cut := range 2 {
			d := newDisk(t, 2)
			m := open(t, d, 0)
			for i := range saved {
				wantSave(t, m, []uint64{uint64(i)}, i+1, api.OK)
			}
			d.Cut(cut)
			for range 3 { // again and again: the power stays off
				wantSave(t, m, []uint64{77}, saved+1, api.ErrDown)
				if saved == 0 {
					wantNone(t, m)
				} else {
					wantLatest(t, m, []uint64{uint64(saved - 1)}, saved, (saved-1)%2)
				}
			}
			if p := d.Pending(); len(p) != cut || cut == 1 && p[0] != saved%2 {
				t.Fatalf("%v wait", p)
			}
		}
	}
	d := newDisk(t, 2)
	m := open(t, d, 0)
	d.Cut(2) // just as many as a Save takes
	wantSave(t, m, []uint64{77}, 1, api.OK)
	wantLatest(t, m, []uint64{77}, 1, 0)
	wantSave(t, m, []uint64{78}, 2, api.ErrDown)
	wantLatest(t, m, []uint64{77}, 1, 0)
}

func TestSaveKeepsToItsOwnMemory(t *testing.T) {
	d := newDisk(t, 2)
	m := open(t, d, 0)
	room := counted(20)
	wantSave(t, m, room[:5], 1, api.OK)
	if !slices.Equal(room, counted(20)) {
		t.Fatal("what was handed in is changed")
	}
	for i := range room {
		room[i] = 99
	}
	wantLatest(t, m, counted(5), 1, 0)
	wantDisk(t, d, 0, slotByWords(counted(5), 1))
	// What Latest told may be saved again, and changed behind that.
	f, _, _ := m.Latest()
	wantSave(t, m, f, 2, api.OK)
	clear(f[:cap(f)])
	wantLatest(t, m, counted(5), 2, 1)
	wantDisk(t, d, 0, slotByWords(counted(5), 1), slotByWords(counted(5), 2))
}

// What another one writes is told by those that are opened behind it.
func TestMastersHaveTheirOwnState(t *testing.T) {
	d := newDisk(t, 4)
	a, b := open(t, d, 0), open(t, d, 0)
	wantSave(t, a, []uint64{1}, 1, api.OK)
	wantNone(t, b)
	wantLatest(t, open(t, d, 0), []uint64{1}, 1, 0)
	c := *a
	wantSave(t, a, []uint64{2}, 2, api.OK)
	wantLatest(t, &c, []uint64{1}, 1, 0)
	wantLatest(t, a, []uint64{2}, 2, 1)
	elsewhere := open(t, d, 2)
	wantSave(t, elsewhere, []uint64{3}, 1, api.OK)
	wantLatest(t, a, []uint64{2}, 2, 1)
	wantLatest(t, open(t, d, 0), []uint64{2}, 2, 1)
	wantLatest(t, open(t, d, 2), []uint64{3}, 1, 0)
	d.Cut(0) // without power they tell what they told
	wantLatest(t, a, []uint64{2}, 2, 1)
	wantLatest(t, elsewhere, []uint64{3}, 1, 0)
}

// The sectors beside the slots stay as they are.
func TestSaveLeavesOtherSectors(t *testing.T) {
	around := bytes.Repeat([]byte{7}, 256)
	d := laid(t, 4, 0, around, nil, nil, around)
	m := open(t, d, 1)
	for i := range 4 {
		wantSave(t, m, []uint64{uint64(i)}, i+1, api.OK)
	}
	wantDisk(t, d, 0, around, slotByWords([]uint64{2}, 3), slotByWords([]uint64{3}, 4), around)
}
