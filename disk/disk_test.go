package disk_test

import (
	"bytes"
	"math"
	"slices"
	"testing"

	"tabulary/api"
	"tabulary/disk"
)

// filled is a sector of one byte, over and over.
func filled(c byte) []byte { return bytes.Repeat([]byte{c}, api.Sector) }

// split is a sector whose first n bytes are a, and whose others are b.
func split(n int, a, b byte) []byte {
	return append(bytes.Repeat([]byte{a}, n), bytes.Repeat([]byte{b}, api.Sector-n)...)
}

func want(t *testing.T, what string, got, need api.Errno) {
	t.Helper()
	if got != need {
		t.Fatalf("%s: error %d, not %d", what, got, need)
	}
}

func makeDisk(t *testing.T, n int) *disk.Disk {
	t.Helper()
	d, e := disk.New(n)
	want(t, "New", e, api.OK)
	if d == nil {
		t.Fatal("New: nil without an error")
	}
	return d
}

func write(t *testing.T, d *disk.Disk, i int, b []byte) {
	t.Helper()
	want(t, "Write", d.Write(i, b), api.OK)
}

func sync(t *testing.T, d *disk.Disk) {
	t.Helper()
	want(t, "Sync", d.Sync(), api.OK)
}

func cut(t *testing.T, d *disk.Disk, n int) {
	t.Helper()
	want(t, "Cut", d.Cut(n), api.OK)
}

func lose(t *testing.T, d *disk.Disk, l api.Loss) *disk.Disk {
	t.Helper()
	y, e := d.Lose(l)
	want(t, "Lose", e, api.OK)
	if y == nil || y == d {
		t.Fatal("Lose: no other disk")
	}
	return y
}

func wantSector(t *testing.T, d *disk.Disk, i int, need []byte) {
	t.Helper()
	b, e := d.Read(i)
	want(t, "Read", e, api.OK)
	if !bytes.Equal(b, need) {
		t.Fatalf("sector %d: %v, not %v", i, b, need)
	}
}

func wantPending(t *testing.T, d *disk.Disk, need ...int) {
	t.Helper()
	if got := d.Pending(); !slices.Equal(got, need) {
		t.Fatalf("Pending: %v, not %v", got, need)
	}
}

func wantSteps(t *testing.T, d *disk.Disk, need int) {
	t.Helper()
	if got := d.Steps(); got != need {
		t.Fatalf("Steps: %d, not %d", got, need)
	}
}

// wantOff asks all three calls that need power.
func wantOff(t *testing.T, d *disk.Disk) {
	t.Helper()
	steps, pending := d.Steps(), d.Pending()
	b, e := d.Read(0)
	want(t, "Read without power", e, api.ErrDown)
	if b != nil {
		t.Fatalf("Read without power: %v", b)
	}
	want(t, "Write without power", d.Write(0, filled(9)), api.ErrDown)
	want(t, "Sync without power", d.Sync(), api.ErrDown)
	wantSteps(t, d, steps)
	wantPending(t, d, pending...)
}

func wantOn(t *testing.T, d *disk.Disk) {
	t.Helper()
	_, e := d.Read(0)
	want(t, "Read with power", e, api.OK)
}

// badSectors are numbers of no sector on a disk of n.
func badSectors(n int) []int { return []int{-1, n, n + 1, math.MinInt, math.MaxInt} }

var (
	none    = api.Loss{Torn: -1}
	allKept = api.Loss{Kept: slices.Repeat([]bool{true}, 100), Torn: -1}
)

// P1.1

func TestNewTakesOneToMaxSectors(t *testing.T) {
	for _, n := range []int{1, 2, 3, 4095, 4096} {
		d := makeDisk(t, n)
		if d.Size() != n {
			t.Errorf("New(%d): Size %d", n, d.Size())
		}
		wantSector(t, d, 0, filled(0))
		wantSector(t, d, n-1, filled(0))
		wantSteps(t, d, 0)
		wantPending(t, d)
	}
}

func TestNewRefusesOtherNumbers(t *testing.T) {
	for _, n := range []int{0, -1, 4097, math.MinInt, math.MaxInt} {
		d, e := disk.New(n)
		if d != nil || e != api.ErrInvalid {
			t.Errorf("New(%d): %v, error %d", n, d, e)
		}
	}
}

func TestDisksHaveTheirOwnState(t *testing.T) {
	a, b := makeDisk(t, 2), makeDisk(t, 2)
	write(t, a, 0, filled(1))
	sync(t, a)
	write(t, a, 1, filled(1))
	cut(t, a, 0)
	wantOn(t, b)
	wantSector(t, b, 0, filled(0))
	wantSector(t, b, 1, filled(0))
	wantSteps(t, b, 0)
	wantPending(t, b)
}

func TestSizeStays(t *testing.T) {
	d := makeDisk(t, 3)
	write(t, d, 2, filled(1))
	sync(t, d)
	cut(t, d, 0)
	if d.Size() != 3 {
		t.Errorf("Size: %d", d.Size())
	}
}

// A disk that is nil, or that no call made: rule 1, and ErrNil ahead of every other error.

func TestNoDisk(t *testing.T) {
	for _, d := range []*disk.Disk{nil, {}, new(disk.Disk)} {
		if d.Size() != 0 || d.Steps() != 0 || len(d.Pending()) != 0 {
			t.Errorf("Size %d, Steps %d, Pending %v", d.Size(), d.Steps(), d.Pending())
		}
		for _, i := range append(badSectors(0), 0) {
			b, e := d.Read(i)
			if b != nil || e != api.ErrNil {
				t.Errorf("Read(%d): %v, error %d", i, b, e)
			}
			want(t, "Write", d.Write(i, filled(1)), api.ErrNil)
			want(t, "Write of nothing", d.Write(i, nil), api.ErrNil)
			want(t, "Spoil", d.Spoil(i, 0, 1), api.ErrNil)
			want(t, "Spoil of no byte", d.Spoil(i, -1, 1), api.ErrNil)
		}
		want(t, "Sync", d.Sync(), api.ErrNil)
		for _, n := range []int{-1, 0, 1} {
			want(t, "Cut", d.Cut(n), api.ErrNil)
		}
		for _, l := range []api.Loss{none, allKept, {}, {Torn: 0, At: -1}, {Torn: 0, At: 257}} {
			y, e := d.Lose(l)
			if y != nil || e != api.ErrNil {
				t.Errorf("Lose(%v): %v, error %d", l, y, e)
			}
		}
		if d.Size() != 0 || d.Steps() != 0 || len(d.Pending()) != 0 {
			t.Error("a disk that no call made has changed")
		}
	}
}

// P1.2

func TestReadTellsTheLastWrite(t *testing.T) {
	d := makeDisk(t, 3)
	write(t, d, 1, filled(1))
	wantSector(t, d, 1, filled(1))
	write(t, d, 2, filled(5))
	write(t, d, 1, filled(2))
	write(t, d, 0, filled(6))
	wantSector(t, d, 0, filled(6))
	wantSector(t, d, 1, filled(2))
	wantSector(t, d, 2, filled(5))
	sync(t, d)
	wantSector(t, d, 1, filled(2))
	write(t, d, 1, filled(3))
	wantSector(t, d, 1, filled(3))
	wantSector(t, d, 2, filled(5))
}

func TestEveryByteIsKept(t *testing.T) {
	b := make([]byte, api.Sector)
	for i := range b {
		b[i] = byte(255 - i)
	}
	d := makeDisk(t, 1)
	write(t, d, 0, b)
	wantSector(t, d, 0, b)
	sync(t, d)
	wantSector(t, d, 0, b)
}

func TestASectorGoesBackToNoughts(t *testing.T) {
	d := makeDisk(t, 2)
	write(t, d, 1, filled(1))
	sync(t, d)
	write(t, d, 1, filled(0))
	wantSector(t, d, 1, filled(0))
	wantSector(t, lose(t, d, none), 1, filled(1))
	wantSector(t, lose(t, d, allKept), 1, filled(0))
	sync(t, d)
	wantSector(t, d, 1, filled(0))
	wantSector(t, lose(t, d, none), 1, filled(0))
}

func TestReadAndWriteRefuseOtherSectors(t *testing.T) {
	for _, n := range []int{1, 3, 4096} {
		d := makeDisk(t, n)
		write(t, d, 0, filled(1))
		for _, i := range badSectors(n) {
			b, e := d.Read(i)
			if b != nil || e != api.ErrInvalid {
				t.Errorf("Read(%d) of %d: %v, error %d", i, n, b, e)
			}
			want(t, "Write", d.Write(i, filled(1)), api.ErrInvalid)
		}
		wantSteps(t, d, 1)
		wantPending(t, d, 0)
	}
}

func TestWriteRefusesOtherLengths(t *testing.T) {
	d := makeDisk(t, 2)
	for _, n := range []int{0, 1, 255, 257, 512} {
		want(t, "Write", d.Write(0, make([]byte, n)), api.ErrInvalid)
	}
	want(t, "Write of nil", d.Write(0, nil), api.ErrInvalid)
	want(t, "Write of spare room", d.Write(0, filled(1)[:255]), api.ErrInvalid)
	wantSteps(t, d, 0)
	wantPending(t, d)
	wantSector(t, d, 0, filled(0))
}

func TestInvalidGoesAheadOfDown(t *testing.T) {
	d := makeDisk(t, 2)
	cut(t, d, 0)
	for _, i := range badSectors(2) {
		_, e := d.Read(i)
		want(t, "Read", e, api.ErrInvalid)
		want(t, "Write", d.Write(i, filled(1)), api.ErrInvalid)
	}
	want(t, "Write of another length", d.Write(0, nil), api.ErrInvalid)
	wantOff(t, d)
}

func TestWriteKeepsNothingOfItsArgument(t *testing.T) {
	d := makeDisk(t, 1)
	room := slices.Repeat([]byte{7}, 300)
	b := room[:api.Sector]
	write(t, d, 0, b)
	want(t, "Spoil", d.Spoil(0, 3, 1), api.OK)
	if !bytes.Equal(room, slices.Repeat([]byte{7}, 300)) {
		t.Error("what was handed in has changed")
	}
	clear(b)
	need := filled(7)
	need[3] = 1
	wantSector(t, d, 0, need)
	sync(t, d)
	wantSector(t, d, 0, need)
}

func TestReadTellsNewMemory(t *testing.T) {
	d := makeDisk(t, 1)
	spoil := func() {
		b, e := d.Read(0)
		want(t, "Read", e, api.OK)
		clear(b[:cap(b)])
	}
	write(t, d, 0, filled(4))
	spoil()
	wantSector(t, d, 0, filled(4))
	sync(t, d)
	spoil()
	wantSector(t, d, 0, filled(4))
	b, _ := d.Read(0)
	write(t, d, 0, filled(5))
	sync(t, d)
	if !bytes.Equal(b, filled(4)) {
		t.Error("what was read has changed")
	}
}

func TestSyncLeavesNoneWaiting(t *testing.T) {
	d := makeDisk(t, 2)
	write(t, d, 0, filled(1))
	write(t, d, 0, filled(2))
	wantSector(t, lose(t, d, none), 0, filled(0))
	sync(t, d)
	wantPending(t, d)
	wantSector(t, lose(t, d, none), 0, filled(2))
	wantSector(t, lose(t, d, none), 1, filled(0))
	write(t, d, 1, filled(3))
	wantPending(t, d, 1)
	wantSector(t, lose(t, d, none), 0, filled(2))
	wantSector(t, lose(t, d, none), 1, filled(0))
}

func TestSyncOfNothing(t *testing.T) {
	d := makeDisk(t, 1)
	sync(t, d)
	sync(t, d)
	wantSteps(t, d, 2)
	wantPending(t, d)
	wantSector(t, d, 0, filled(0))
}

// P1.3

func TestStepsAreWritesAndSyncsThatWereOK(t *testing.T) {
	d := makeDisk(t, 2)
	write(t, d, 0, filled(1))
	wantSteps(t, d, 1)
	write(t, d, 0, filled(1))
	wantSteps(t, d, 2)
	sync(t, d)
	wantSteps(t, d, 3)
	d.Read(0)
	d.Read(5)
	d.Write(5, filled(1))
	d.Write(0, nil)
	d.Spoil(0, 0, 1)
	d.Cut(9)
	d.Cut(-1)
	d.Pending()
	d.Size()
	d.Lose(none)
	wantSteps(t, d, 3)
}

func TestCutAtOnce(t *testing.T) {
	d := makeDisk(t, 2)
	write(t, d, 1, filled(1))
	cut(t, d, 0)
	wantOff(t, d)
	wantSteps(t, d, 1)
	wantPending(t, d, 1)
}

func TestCutBehindSteps(t *testing.T) {
	for n := 1; n <= 4; n++ {
		d := makeDisk(t, 2)
		write(t, d, 0, filled(8))
		cut(t, d, n)
		for k := range n {
			wantOn(t, d)
			write(t, d, 1, filled(byte(k)))
		}
		wantOff(t, d)
		wantSteps(t, d, 1+n)
		if len(d.Pending()) != 1+n {
			t.Errorf("Cut(%d): Pending %v", n, d.Pending())
		}
	}
}

func TestTheSyncAtWhichThePowerGoesOffIsMade(t *testing.T) {
	d := makeDisk(t, 2)
	cut(t, d, 2)
	write(t, d, 1, filled(3))
	sync(t, d)
	wantOff(t, d)
	wantPending(t, d)
	wantSector(t, lose(t, d, none), 1, filled(3))
}

func TestOnlyStepsBringTheCutNearer(t *testing.T) {
	d := makeDisk(t, 2)
	cut(t, d, 1)
	d.Read(0)
	d.Read(-1)
	d.Write(2, filled(1))
	d.Write(0, nil)
	d.Spoil(0, 0, 0)
	d.Pending()
	d.Lose(none)
	d.Cut(-1)
	wantOn(t, d)
	write(t, d, 0, filled(1))
	wantOff(t, d)
}

func TestTheLastCutCounts(t *testing.T) {
	later := makeDisk(t, 1)
	cut(t, later, 1)
	cut(t, later, 3)
	sync(t, later)
	sync(t, later)
	wantOn(t, later)
	sync(t, later)
	wantOff(t, later)

	sooner := makeDisk(t, 1)
	cut(t, sooner, 9)
	sync(t, sooner)
	cut(t, sooner, 1)
	sync(t, sooner)
	wantOff(t, sooner)

	now := makeDisk(t, 1)
	cut(t, now, 5)
	cut(t, now, 0)
	wantOff(t, now)
}

func TestPowerThatIsOffStaysOff(t *testing.T) {
	for _, first := range []int{0, 1} {
		d := makeDisk(t, 1)
		cut(t, d, first)
		for range first {
			write(t, d, 0, filled(1))
		}
		for _, n := range []int{0, 1, 7, math.MaxInt} {
			cut(t, d, n)
			wantOff(t, d)
		}
		want(t, "Cut", d.Cut(-1), api.ErrInvalid)
		lose(t, d, none)
		wantOff(t, d)
	}
}

func TestCutRefusesNumbersBelowNought(t *testing.T) {
	for _, n := range []int{-1, -2, math.MinInt} {
		d := makeDisk(t, 1)
		want(t, "Cut", d.Cut(n), api.ErrInvalid)
		for range 5 {
			sync(t, d)
		}
		cut(t, d, 1)
		want(t, "Cut", d.Cut(n), api.ErrInvalid)
		wantOn(t, d)
		sync(t, d)
		wantOff(t, d)
	}
}

func TestCutFarAway(t *testing.T) {
	d := makeDisk(t, 1)
	for range 3 {
		sync(t, d)
	}
	cut(t, d, math.MaxInt)
	for range 5 {
		sync(t, d)
	}
	wantOn(t, d)
	wantSteps(t, d, 8)
}

func TestPendingTellsEachWriteInOrder(t *testing.T) {
	d := makeDisk(t, 4)
	for _, i := range []int{3, 1, 3, 0, 1, 1} {
		write(t, d, i, filled(0))
	}
	wantPending(t, d, 3, 1, 3, 0, 1, 1)
	places := d.Pending()
	clear(places[:cap(places)])
	wantPending(t, d, 3, 1, 3, 0, 1, 1)
	cut(t, d, 0)
	wantPending(t, d, 3, 1, 3, 0, 1, 1)
}

// P1.4

// threeWaiting holds 1s in sector 0 and 2s in sector 1; 3s wait for sector 0, 4s for sector 1, 5s for sector 0 again. It has made 6 steps.
func threeWaiting(t *testing.T) *disk.Disk {
	t.Helper()
	d := makeDisk(t, 3)
	write(t, d, 0, filled(1))
	write(t, d, 1, filled(2))
	sync(t, d)
	write(t, d, 0, filled(3))
	write(t, d, 1, filled(4))
	write(t, d, 0, filled(5))
	return d
}

func TestTheChaptersExample(t *testing.T) {
	d := makeDisk(t, 3)
	write(t, d, 1, filled(1))
	wantSector(t, lose(t, d, none), 1, filled(0))
	wantSector(t, lose(t, d, api.Loss{Kept: []bool{true}, Torn: -1}), 1, filled(1))
	wantSector(t, lose(t, d, api.Loss{Torn: 0, At: 2}), 1, split(2, 1, 0))
}

func TestLose(t *testing.T) {
	yes, no := true, false
	for _, x := range []struct {
		name       string
		l          api.Loss
		zero, unit []byte
	}{
		{"nothing kept", none, filled(1), filled(2)},
		{"nothing kept, said so", api.Loss{Kept: []bool{no, no, no}, Torn: -1}, filled(1), filled(2)},
		{"all kept", api.Loss{Kept: []bool{yes, yes, yes}, Torn: -1}, filled(5), filled(4)},
		{"first kept", api.Loss{Kept: []bool{yes}, Torn: -1}, filled(3), filled(2)},
		{"second kept", api.Loss{Kept: []bool{no, yes}, Torn: -1}, filled(1), filled(4)},
		{"third kept", api.Loss{Kept: []bool{no, no, yes}, Torn: -1}, filled(5), filled(2)},
		{"more said than waits", api.Loss{Kept: []bool{no, no, no, yes, yes}, Torn: -1}, filled(1), filled(2)},
		{"torn, not kept", api.Loss{Torn: 0, At: 10}, split(10, 3, 1), filled(2)},
		{"torn, and kept", api.Loss{Kept: []bool{yes, no, no}, Torn: 0, At: 10}, split(10, 3, 1), filled(2)},
		{"torn at nought", api.Loss{Torn: 1, At: 0}, filled(1), filled(2)},
		{"torn at nought, and kept", api.Loss{Kept: []bool{yes, yes, yes}, Torn: 1, At: 0}, filled(5), filled(2)},
		{"torn behind one byte", api.Loss{Torn: 1, At: 1}, filled(1), split(1, 4, 2)},
		{"torn behind all but one", api.Loss{Torn: 1, At: 255}, filled(1), split(255, 4, 2)},
		{"torn behind the last byte", api.Loss{Torn: 1, At: 256}, filled(1), filled(4)},
		{"torn over one that is kept", api.Loss{Kept: []bool{yes, no, no}, Torn: 2, At: 7}, split(7, 5, 3), filled(2)},
		{"torn over one that is lost", api.Loss{Kept: []bool{no, yes, no}, Torn: 2, At: 7}, split(7, 5, 1), filled(4)},
		{"torn below one that is kept", api.Loss{Kept: []bool{no, no, yes}, Torn: 0, At: 7}, filled(5), filled(2)},
		{"torn behind the last", api.Loss{Torn: 3, At: 7}, filled(1), filled(2)},
		{"torn far behind the last, at no place", api.Loss{Torn: math.MaxInt, At: math.MaxInt}, filled(1), filled(2)},
		{"torn behind the last, at no place, all kept", api.Loss{Kept: []bool{yes, yes, yes}, Torn: 3, At: 300}, filled(5), filled(4)},
		{"torn ahead of the first, at no place", api.Loss{Kept: []bool{no, yes}, Torn: -1, At: -1}, filled(1), filled(4)},
		{"torn far ahead of the first", api.Loss{Torn: math.MinInt, At: math.MinInt}, filled(1), filled(2)},
	} {
		t.Run(x.name, func(t *testing.T) {
			for _, off := range []bool{false, true} {
				d := threeWaiting(t)
				if off {
					cut(t, d, 0)
				}
				y := lose(t, d, x.l)
				wantSteps(t, y, 0)
				wantPending(t, y)
				wantSector(t, y, 0, x.zero)
				wantSector(t, y, 1, x.unit)
				wantSector(t, y, 2, filled(0))
				if y.Size() != 3 {
					t.Errorf("Size: %d", y.Size())
				}
			}
		})
	}
}

func TestLoseRefusesToTearElsewhere(t *testing.T) {
	d := threeWaiting(t)
	for torn := range 3 {
		for _, at := range []int{-1, 257, math.MinInt, math.MaxInt} {
			for _, kept := range [][]bool{nil, {true, true, true}} {
				y, e := d.Lose(api.Loss{Kept: kept, Torn: torn, At: at})
				if y != nil || e != api.ErrInvalid {
					t.Errorf("Lose, torn %d at %d: %v, error %d", torn, at, y, e)
				}
			}
		}
	}
	wantPending(t, d, 0, 1, 0)
	wantSteps(t, d, 6)
}

func TestLoseWithoutAWaitingWriteTearsNothing(t *testing.T) {
	d := makeDisk(t, 1)
	write(t, d, 0, filled(1))
	sync(t, d)
	for _, at := range []int{-1, 0, 9, 257} {
		y := lose(t, d, api.Loss{Kept: []bool{true}, Torn: 0, At: at})
		wantSector(t, y, 0, filled(1))
	}
}

func TestATornSectorGoesBackToNoughts(t *testing.T) {
	d := makeDisk(t, 1)
	write(t, d, 0, split(4, 1, 0))
	sync(t, d)
	write(t, d, 0, split(4, 0, 1))
	wantSector(t, lose(t, d, api.Loss{Torn: 0, At: 4}), 0, filled(0))
	wantSector(t, lose(t, d, api.Loss{Torn: 0, At: 3}), 0, append([]byte{0, 0, 0, 1}, make([]byte, 252)...))
	wantSector(t, lose(t, d, api.Loss{Torn: 0, At: 5}), 0, append([]byte{0, 0, 0, 0, 1}, make([]byte, 251)...))
}

func TestWhatIsLostLeavesThisDiskAsItIs(t *testing.T) {
	d := threeWaiting(t)
	cut(t, d, 1)
	kept := []bool{true, false, true}
	for range 2 {
		y := lose(t, d, api.Loss{Kept: kept, Torn: 1, At: 8})
		write(t, y, 0, filled(9))
		write(t, y, 2, filled(9))
		sync(t, y)
		write(t, y, 1, filled(9))
		want(t, "Spoil", y.Spoil(1, 0, 9), api.OK)
		cut(t, y, 0)
	}
	if !slices.Equal(kept, []bool{true, false, true}) {
		t.Error("what was handed in has changed")
	}
	wantSteps(t, d, 6)
	wantPending(t, d, 0, 1, 0)
	wantSector(t, d, 0, filled(5))
	wantSector(t, d, 1, filled(4))
	wantSector(t, d, 2, filled(0))
	wantSector(t, lose(t, d, none), 0, filled(1))
	wantSector(t, lose(t, d, none), 1, filled(2))
	sync(t, d)
	wantOff(t, d)
}

func TestThisDiskLeavesWhatIsLostAsItIs(t *testing.T) {
	d := threeWaiting(t)
	y := lose(t, d, none)
	z := lose(t, d, allKept)
	write(t, d, 2, filled(7))
	sync(t, d)
	want(t, "Spoil", d.Spoil(0, 0, 8), api.OK)
	want(t, "Spoil", d.Spoil(1, 0, 8), api.OK)
	cut(t, d, 0)
	wantSector(t, y, 0, filled(1))
	wantSector(t, y, 1, filled(2))
	wantSector(t, y, 2, filled(0))
	wantSector(t, z, 0, filled(5))
	wantSector(t, z, 1, filled(4))
	wantSector(t, z, 2, filled(0))
}

func TestADiskBehindALossIsADisk(t *testing.T) {
	d := threeWaiting(t)
	cut(t, d, 0)
	y := lose(t, d, allKept)
	for range 5 {
		sync(t, y)
	}
	write(t, y, 2, filled(6))
	wantPending(t, y, 2)
	wantSteps(t, y, 6)
	z := lose(t, y, none)
	wantSector(t, z, 0, filled(5))
	wantSector(t, z, 2, filled(0))
	cut(t, y, 1)
	sync(t, y)
	wantOff(t, y)
	wantSector(t, lose(t, y, none), 2, filled(6))
	_, e := y.Read(3)
	want(t, "Read", e, api.ErrInvalid)
}

func TestALossDoesNotHandOnACut(t *testing.T) {
	d := makeDisk(t, 1)
	cut(t, d, 1)
	y := lose(t, d, none)
	for range 3 {
		sync(t, y)
	}
	wantOn(t, y)
	wantOn(t, d)
	sync(t, d)
	wantOff(t, d)
}

// P1.5

func TestSpoilReachesWhatIsHeldAndAllThatWaits(t *testing.T) {
	for _, off := range []bool{false, true} {
		d := threeWaiting(t)
		if off {
			cut(t, d, 0)
		}
		want(t, "Spoil", d.Spoil(0, 9, 200), api.OK)
		wantSteps(t, d, 6)
		wantPending(t, d, 0, 1, 0)
		spoilt := func(c byte) []byte {
			b := filled(c)
			b[9] = 200
			return b
		}
		wantSector(t, lose(t, d, none), 0, spoilt(1))
		wantSector(t, lose(t, d, api.Loss{Kept: []bool{true}, Torn: -1}), 0, spoilt(3))
		wantSector(t, lose(t, d, allKept), 0, spoilt(5))
		wantSector(t, lose(t, d, none), 1, filled(2))
		wantSector(t, lose(t, d, allKept), 1, filled(4))
		wantSector(t, lose(t, d, allKept), 2, filled(0))
		if off {
			wantOff(t, d)
			continue
		}
		wantSector(t, d, 0, spoilt(5))
		wantSector(t, d, 1, filled(4))
		sync(t, d)
		wantSector(t, d, 0, spoilt(5))
	}
}

func TestSpoilOfASectorThatNobodyWrote(t *testing.T) {
	d := makeDisk(t, 2)
	want(t, "Spoil", d.Spoil(1, 0, 3), api.OK)
	want(t, "Spoil", d.Spoil(1, 255, 4), api.OK)
	need := filled(0)
	need[0], need[255] = 3, 4
	wantSector(t, d, 1, need)
	wantSector(t, d, 0, filled(0))
	wantSector(t, lose(t, d, none), 1, need)
	wantPending(t, d)
	wantSteps(t, d, 0)
	want(t, "Spoil", d.Spoil(1, 0, 0), api.OK)
	want(t, "Spoil", d.Spoil(1, 255, 0), api.OK)
	wantSector(t, d, 1, filled(0))
}

func TestAWriteGoesOverWhatWasSpoilt(t *testing.T) {
	d := makeDisk(t, 1)
	want(t, "Spoil", d.Spoil(0, 5, 9), api.OK)
	write(t, d, 0, filled(1))
	wantSector(t, d, 0, filled(1))
	sync(t, d)
	wantSector(t, d, 0, filled(1))
}

func TestSpoilRefuses(t *testing.T) {
	for _, off := range []bool{false, true} {
		d := threeWaiting(t)
		if off {
			cut(t, d, 0)
		}
		for _, i := range badSectors(3) {
			want(t, "Spoil", d.Spoil(i, 0, 9), api.ErrInvalid)
		}
		for _, at := range []int{-1, 256, math.MinInt, math.MaxInt} {
			want(t, "Spoil", d.Spoil(0, at, 9), api.ErrInvalid)
		}
		y := lose(t, d, allKept)
		wantSector(t, y, 0, filled(5))
		wantSector(t, y, 1, filled(4))
		wantSector(t, lose(t, d, none), 0, filled(1))
	}
}
