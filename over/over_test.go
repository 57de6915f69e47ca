package over_test

import (
	"bytes"
	"hash/crc32"
	"slices"
	"testing"

	"tabulary/api"
	"tabulary/disk"
	"tabulary/over"
	"tabulary/stamp"
)

// dice throws the same numbers each time.
type dice uint64

func (d *dice) throw() uint64 {
	*d = *d*6364136223846793005 + 1442695040888963407
	return uint64(*d>>32)<<32 ^ uint64(*d>>16)
}

func (d *dice) below(n int) int { return int(d.throw()>>33) % n }

func (d *dice) bytes(n int) []byte {
	b := make([]byte, n)
	for i := range b {
		b[i] = byte(d.throw() >> 40)
	}
	return b
}

func wrap(t *testing.T, mark uint64, body []byte) []byte {
	t.Helper()
	s, e := stamp.Wrap(mark, 1, body)
	if e != api.OK {
		t.Fatalf("Wrap: error %d", e)
	}
	return s
}

func laid(t *testing.T, sectors ...[]byte) *disk.Disk {
	t.Helper()
	d, _ := disk.New(len(sectors) + 2)
	for i, s := range sectors {
		if e := d.Write(1+i, s); e != api.OK {
			t.Fatalf("Write: error %d", e)
		}
	}
	d.Sync()
	return d
}

func read(t *testing.T, d *disk.Disk, i int) []byte {
	t.Helper()
	s, e := d.Read(i)
	if e != api.OK {
		t.Fatalf("Read: error %d", e)
	}
	return s
}

// Whatever is opened is mistaken, and nothing is.
func everything(int, []byte) bool { return true }

func nothing(int, []byte) bool { return false }

func opened(b []byte) bool {
	_, _, _, e := stamp.Open(b)
	return e == api.OK
}

// mistaken is what a torn write has left, over which young can be torn so that what is left is opened: it ends with young's stamp, and its sum is right for that.
func (d *dice) mistaken(young []byte) []byte {
	old, at := d.bytes(256), 10+d.below(int(young[9]))
	copy(old[248:], young[:8])
	old[at] = ^young[at]
	left := append(slices.Clone(young[:at]), old[at:244]...)
	clear(left[10+int(young[9]):])
	copy(old[at:], left[at:])
	s := crc32.ChecksumIEEE(left)
	copy(old[244:], []byte{byte(s), byte(s >> 8), byte(s >> 16), byte(s >> 24)})
	return old
}

func TestWriteWritesInOrderAndSyncs(t *testing.T) {
	a, b, c := wrap(t, 1, []byte("abc")), wrap(t, 2, nil), wrap(t, 3, bytes.Repeat([]byte{7}, 233))
	for _, old := range [][]byte{make([]byte, 256), wrap(t, 9, nil), wrap(t, 1, []byte("xyz")), wrap(t, 2, nil), bytes.Repeat([]byte{9}, 256), stamp.Torn(a, c, 100)} {
		d := laid(t, old, old, old)
		steps := d.Steps()
		if e := over.Write(d, 1, everything, a, b, c); e != api.OK || d.Steps() != steps+4 || len(d.Pending()) != 0 {
			t.Fatalf("Write: error %d, %d steps", e, d.Steps()-steps)
		}
		for i, s := range [][]byte{make([]byte, 256), a, b, c, make([]byte, 256)} {
			if !bytes.Equal(read(t, d, i), s) {
				t.Fatalf("sector %d is another one", i)
			}
		}
		for cut := range 4 {
			d := laid(t, old, old, old)
			d.Cut(cut)
			if e := over.Write(d, 1, everything, a, b, c); e != api.ErrDown || !slices.Equal(d.Pending(), []int{1, 2, 3}[:cut]) {
				t.Fatalf("cut behind %d steps: error %d, %v wait", cut, e, d.Pending())
			}
		}
	}
}

func TestWriteIsRefusedAsADiskRefusesIt(t *testing.T) {
	a := wrap(t, 1, nil)
	if e := over.Write(nil, 0, everything, a); e != api.ErrNil {
		t.Errorf("no disk: error %d", e)
	}
	for _, at := range []int{-1, 3, 4} {
		d := laid(t, a)
		if e := over.Write(d, at, everything, a); e != api.ErrInvalid {
			t.Errorf("at %d: error %d", at, e)
		}
	}
	for _, n := range []int{0, 1, 255, 257} {
		for _, old := range [][]byte{make([]byte, 256), a, stamp.Torn(a, wrap(t, 2, nil), 9)} {
			if e := over.Write(laid(t, old), 1, everything, make([]byte, n)); e != api.ErrInvalid {
				t.Errorf("%d bytes: error %d", n, e)
			}
		}
	}
}

// Whatever is lost or torn, what is opened is what is written.
func TestWriteOverWhatCouldBeMistaken(t *testing.T) {
	d := dice(1)
	for range 60 {
		young := wrap(t, 1+d.throw()>>d.below(60), d.bytes(1+d.below(233)))
		old := d.mistaken(young)
		if opened(old) {
			continue
		}
		for cut := range 5 {
			on := laid(t, old)
			on.Cut(cut)
			e := over.Write(on, 1, everything, young)
			if e == api.OK != (cut == 4) {
				t.Fatalf("cut behind %d steps: error %d", cut, e)
			}
			for at := range 257 {
				after, _ := on.Lose(api.Loss{Torn: 0, At: at})
				if s := read(t, after, 1); opened(s) && !bytes.Equal(s, young) {
					t.Fatalf("cut behind %d steps and torn at %d: what is left is opened", cut, at)
				}
			}
			after, _ := on.Lose(api.Loss{Kept: []bool{true}, Torn: -1})
			if s := read(t, after, 1); bytes.Equal(s, young) != (cut > 2) || opened(s) != (cut > 2) {
				t.Fatalf("cut behind %d steps: the sector is another one", cut)
			}
		}
	}
}

// forge changes four bytes of b so that its sum is s: the bits that the bytes ahead leave, and those that the bytes behind need, are held against each other in their midst.
func forge(b []byte, at int, s uint32) {
	ahead, need := ^crc32.ChecksumIEEE(b[:at]), ^s
	back := func() {
		for range 8 {
			if need>>31 == 1 {
				need = (need^0xedb88320)<<1 | 1
			} else {
				need <<= 1
			}
		}
	}
	for i := len(b) - 1; i >= at+4; i-- {
		back()
		need ^= uint32(b[i])
	}
	for range 4 {
		back()
	}
	for i := range 4 {
		b[at+i] = byte((ahead ^ need) >> (8 * i))
	}
}

// What stands there would be opened with the next last byte, too: another one is taken.
func TestWriteOverWhatCouldBeMistakenWithTheNextLastByte(t *testing.T) {
	d := dice(3)
	for mark := uint64(500); mark < 530; mark++ {
		young := wrap(t, mark, d.bytes(233))
		old := wrap(t, mark>>8<<8|(mark+1)&255, d.bytes(233))
		at := 14 + d.below(200)
		s := crc32.ChecksumIEEE(append(slices.Clone(young[:at]), old[at:244]...))
		forge(old[:244], 10, s)
		copy(old[244:], []byte{byte(s), byte(s >> 8), byte(s >> 16), byte(s >> 24)})
		copy(old[248:], young[:8])
		if opened(old) || !opened(stamp.Torn(old, young, at)) {
			t.Fatal("what a torn write would leave is not opened: it is not asked whether that counts")
		}
		for cut := range 4 {
			on := laid(t, old)
			on.Cut(cut)
			if e := over.Write(on, 1, everything, young); e != api.ErrDown {
				t.Fatalf("cut behind %d steps: error %d", cut, e)
			}
			for tear := range 256 {
				after, _ := on.Lose(api.Loss{Torn: 0, At: tear})
				if opened(read(t, after, 1)) {
					t.Fatalf("cut behind %d steps and torn at %d: what is left is opened", cut, tear)
				}
			}
		}
	}
}

// Of several sectors those alone get a ground that need one, all of them ahead of the first that is written.
func TestWriteOfSeveralOverWhatCouldBeMistaken(t *testing.T) {
	d := dice(2)
	for range 60 {
		var young, old [][]byte
		var need []int
		for i := range 4 {
			young = append(young, wrap(t, uint64(100+i), d.bytes(200)))
			old = append(old, wrap(t, 50, nil))
			if d.below(2) == 0 {
				old[i] = d.mistaken(young[i])
				need = append(need, 1+i)
			}
		}
		if len(need) == 0 {
			continue
		}
		on := laid(t, old...)
		on.Cut(len(need))
		if e := over.Write(on, 1, everything, young...); e != api.ErrDown || !slices.Equal(on.Pending(), need) {
			t.Fatalf("error %d, %v wait, not %v", e, on.Pending(), need)
		}
		on = laid(t, old...)
		steps := on.Steps()
		if e := over.Write(on, 1, everything, young...); e != api.OK || on.Steps() != steps+len(need)+1+5 {
			t.Fatalf("error %d, %d steps", e, on.Steps()-steps)
		}
		for i, s := range young {
			if !bytes.Equal(read(t, on, 1+i), s) {
				t.Fatalf("sector %d is another one", i)
			}
		}
	}
}

// Where nothing would be mistaken, there is no more than the writes and a sync.
func TestWriteOverWhatIsNotMistaken(t *testing.T) {
	d := dice(4)
	for range 60 {
		young := wrap(t, 1+d.throw()>>d.below(60), d.bytes(1+d.below(233)))
		old := d.mistaken(young)
		on := laid(t, old)
		steps := on.Steps()
		if e := over.Write(on, 1, nothing, young); e != api.OK || on.Steps() != steps+2 || !bytes.Equal(read(t, on, 1), young) {
			t.Fatalf("error %d, %d steps", e, on.Steps()-steps)
		}
		on = laid(t, old)
		on.Cut(1)
		e := over.Write(on, 1, nothing, young)
		after, _ := on.Lose(api.Loss{Kept: []bool{true}, Torn: -1})
		if e != api.ErrDown || !bytes.Equal(read(t, after, 1), young) {
			t.Fatalf("error %d, or another sector is written", e)
		}
	}
}

// What is asked for is what a torn write leaves, and is opened, and is neither of both; of each sector by its place.
func TestWriteAsksWhatIsMistaken(t *testing.T) {
	d, asked := dice(5), [4]int{}
	for range 60 {
		var young, old [][]byte
		for i := range asked {
			young = append(young, wrap(t, uint64(100+i), d.bytes(200)))
			old = append(old, d.mistaken(young[i]))
		}
		only := d.below(len(asked))
		on := laid(t, old...)
		steps := on.Steps()
		e := over.Write(on, 1, func(i int, left []byte) bool {
			asked[i]++
			torn := false
			for at := range 256 { // over a ground the last byte is another one
				torn = torn || bytes.Equal(left[:255], stamp.Torn(old[i], young[i], at)[:255])
			}
			if !torn || !opened(left) || bytes.Equal(left, old[i]) || bytes.Equal(left, young[i]) {
				t.Fatalf("it is asked whether another sector is mistaken for the sector %d", i)
			}
			return i == only
		}, young...)
		if e != api.OK || on.Steps() != steps+1+1+5 {
			t.Fatalf("error %d, %d steps", e, on.Steps()-steps)
		}
	}
	if slices.Contains(asked[:], 0) {
		t.Errorf("asked %v times", asked)
	}
}
