package master_test

import (
	"bytes"
	"hash/crc32"
	"math"
	"math/bits"
	"slices"
	"testing"

	"tabulary/api"
	"tabulary/disk"
	"tabulary/master"
)

// dice throws the same numbers each time.
type dice uint64

func (d *dice) throw() uint64 {
	*d = *d*6364136223846793005 + 1442695040888963407
	return uint64(*d>>32)<<32 ^ uint64(*d>>16)
}

func (d *dice) below(n int) int { return int(d.throw()>>33) % n }

// fields are mostly few, and of all lengths.
func (d *dice) fields() []uint64 {
	l := make([]uint64, d.below([]int{1, 3, 8, 21}[d.below(4)]))
	for i := range l {
		l[i] = d.throw() >> d.below(64)
	}
	return l
}

// loss keeps, loses or tears the writes that wait.
func (d *dice) loss(waiting int) api.Loss {
	l := api.Loss{Torn: -1}
	for range waiting {
		l.Kept = append(l.Kept, d.below(2) == 0)
	}
	if waiting > 0 && d.below(2) == 0 {
		l.Torn, l.At = d.below(waiting), d.below(257)
		if ends := []int{1, 4, 6, 7, 8, 247, 248, 252, 253, 254, 255}; d.below(2) == 0 {
			l.At = ends[d.below(len(ends))]
		}
	}
	return l
}

// kept is what a slot is asked for.
type kept struct {
	fields []uint64
	epoch  int // 0: none
}

// takeUint reads a number from the beginning on, without asking whether it is put as it should be.
func takeUint(b []byte) (n uint64, left []byte, ok bool) {
	for i, c := range b {
		if i == 10 {
			break
		}
		n |= uint64(c%128) << (7 * i)
		if c < 128 {
			return n, b[i+1:], true
		}
	}
	return 0, nil, false
}

// standsByWords is what stands in a sector: fields and an epoch whose sector, as the words lay it, has just these bytes.
func standsByWords(b []byte) kept {
	mark := uint64(0)
	for _, c := range b[:8] {
		mark = mark*256 + uint64(c)
	}
	n, left, ok := takeUint(b[10:min(10+int(b[9]), 243)])
	if mark < 1 || mark > greatest || !ok || n > 20 {
		return kept{}
	}
	k := kept{epoch: int(mark)}
	for range n {
		var f uint64
		f, left, ok = takeUint(left)
		if !ok {
			return kept{}
		}
		k.fields = append(k.fields, f)
	}
	if !bytes.Equal(slotByWords(k.fields, k.epoch), b) {
		return kept{}
	}
	return k
}

// latestByWords is which of two slots is told.
func latestByWords(s [2]kept) int {
	switch {
	case s[0].epoch == 0 && s[1].epoch == 0:
		return -1
	case s[0].epoch >= s[1].epoch:
		return 0
	}
	return 1
}

func wantAs(t *testing.T, m *master.Master, s [2]kept) {
	t.Helper()
	i := latestByWords(s)
	if i < 0 {
		wantNone(t, m)
		return
	}
	wantLatest(t, m, s[i].fields, s[i].epoch, i)
}

// P10.1 and P10.2, by the chapter's words

// broken is a slot's sector some of whose parts are others; its sum and its last stamp are mostly right again.
func (d *dice) broken() []byte {
	epoch := 1 + d.below(6)
	if d.below(4) == 0 {
		epoch = greatest - d.below(3)
	}
	b := slotByWords(d.fields(), epoch)
	switch d.below(12) {
	case 0:
		b = sectorByWords(uint64(epoch), byte(d.below(5)), b[10:10+int(b[9])])
	case 1:
		b[d.below(8)] ^= 1 << d.below(8)
	case 2:
		b[9] += byte(d.below(3)) - 1
	case 3:
		b[10] += byte(d.below(3)) - 1
	case 4:
		b[10] = byte(19 + d.below(4))
	case 5:
		b[10+d.below(30)] ^= 1 << d.below(8)
	case 6:
		b[d.below(256)] ^= 1 << d.below(8)
	case 7:
		clear(b)
	case 8:
		b = sectorByWords(greatest-1+uint64(d.below(4)), 3, b[10:10+int(b[9])])
	}
	if d.below(6) > 0 {
		b = resummed(b)
	}
	return b
}

func TestOpenByTheChaptersWords(t *testing.T) {
	d, told := dice(10), map[int]int{}
	for range 20000 {
		a, b := d.broken(), d.broken()
		s := [2]kept{standsByWords(a), standsByWords(b)}
		wantAs(t, open(t, laid(t, 3, 1, a, b), 1), s)
		told[latestByWords(s)]++
	}
	for i := -1; i < 2; i++ {
		if told[i] < 1000 {
			t.Errorf("the slot %d is told %d times: too few to tell", i, told[i])
		}
	}
}

// P10.3, by the chapter's words

// saveByWords is a Save's refusal ahead of the disk's.
func saveByWords(s [2]kept, fields []uint64, epoch int) api.Errno {
	latest := 0
	if i := latestByWords(s); i >= 0 {
		latest = s[i].epoch
	}
	if epoch <= latest || epoch > greatest {
		return api.ErrInvalid
	}
	if len(fields) > 20 || len(bodyByWords(fields)) > 233 {
		return api.ErrBig
	}
	return api.OK
}

func TestSavesByTheChaptersWords(t *testing.T) {
	d, told := dice(11), map[api.Errno]int{}
	for range 400 {
		var s [2]kept
		on := newDisk(t, 2)
		m := open(t, on, 0)
		epoch := d.below(3)
		for range 60 {
			fields := d.fields()
			if d.below(8) == 0 {
				fields = make([]uint64, 18+d.below(8))
			}
			if d.below(10) == 0 {
				on.Cut(d.below(3))
			}
			need := saveByWords(s, fields, epoch)
			waited := len(on.Pending())
			e := m.Save(fields, epoch)
			told[e]++
			if e == api.ErrDown && need == api.OK {
				wantAs(t, m, s)
				break
			}
			if e != need || len(on.Pending()) != waited {
				t.Fatalf("Save(%v, %d): error %d, not %d", fields, epoch, e, need)
			}
			if e == api.OK {
				i := 0
				if latestByWords(s) == 0 {
					i = 1
				}
				s[i] = kept{fields, epoch}
			}
			wantAs(t, m, s)
			epoch += d.below(4) - 1
			if d.below(200) == 0 {
				epoch = greatest - d.below(3)
			}
		}
	}
	for _, e := range []api.Errno{api.OK, api.ErrInvalid, api.ErrBig, api.ErrDown} {
		if told[e] < 100 {
			t.Errorf("%d is told %d times: too few to tell", e, told[e])
		}
	}
}

// P10.4

// history are Saves, of which the last one is cut.
type history []kept

func histories() []history {
	full := slices.Repeat([]uint64{math.MaxUint64}, 20)
	return []history{
		{{nil, 1}},
		{{full, 1}},
		{{full, greatest}},
		{{nil, 1}, {nil, 2}},
		{{counted(20), 1}, {full, greatest}},
		{{nil, 1}, {nil, 2}, {nil, 3}},
		{{full, 255}, {full, 256}, {full, 257}},
		{{full, 5}, {counted(3), 6}, {full, 261}},
		{{full, 254}, {full, 255}, {full, 256}},
		{{counted(7), 254}, {nil, 255}, {counted(8), 510}},
		{{full, 1}, {nil, 2}, {nil, 3}, {counted(20), 1 << 24}},
		{{nil, 3}, {counted(4), 500}, {counted(5), 70000}, {counted(6), 70001}, {counted(7), greatest - 1}},
	}
}

// made is the disk behind all Saves but the last one, with the master that is to carry that one out.
func (h history) made(t *testing.T) (*master.Master, *disk.Disk) {
	t.Helper()
	d := newDisk(t, 4)
	m := open(t, d, 1)
	for _, k := range h[:len(h)-1] {
		wantSave(t, m, k.fields, k.epoch, api.OK)
	}
	return m, d
}

// ahead is what was the latest one, and last what was being saved.
func (h history) ahead() kept {
	if len(h) < 2 {
		return kept{}
	}
	return h[len(h)-2]
}

func (h history) last() kept { return h[len(h)-1] }

// isLatest tells whether a master has that.
func isLatest(m *master.Master, k kept) bool {
	f, n, ok := m.Latest()
	return ok == (k.epoch > 0) && n == k.epoch && slices.Equal(f, k.fields)
}

// wantOneOf opens a disk anew, and tells whether what was being saved is there.
func wantOneOf(t *testing.T, d *disk.Disk, ahead, last kept) bool {
	t.Helper()
	m := open(t, d, 1)
	switch {
	case isLatest(m, last):
		return true
	case !isLatest(m, ahead):
		f, n, ok := m.Latest()
		t.Fatalf("what is opened is %v, %d, %v: neither %v nor %v", f, n, ok, ahead, last)
	}
	return false
}

func TestASaveCutAnywhere(t *testing.T) {
	for _, h := range histories() {
		ahead, last := h.ahead(), h.last()
		for cut := range 3 {
			m, d := h.made(t)
			d.Cut(cut)
			e := m.Save(last.fields, last.epoch)
			if e == api.OK != (cut == 2) {
				t.Fatalf("a Save cut behind %d steps: error %d", cut, e)
			}
			waiting := len(d.Pending())
			for _, keep := range []bool{false, true} {
				after, _ := d.Lose(api.Loss{Kept: slices.Repeat([]bool{keep}, waiting), Torn: -1})
				if there := wantOneOf(t, after, ahead, last); there != (cut == 2 || cut == 1 && keep) {
					t.Fatalf("cut behind %d steps, kept %v: there %v", cut, keep, there)
				}
			}
			if waiting == 0 {
				continue
			}
			for at := range 257 {
				after, _ := d.Lose(api.Loss{Torn: 0, At: at})
				wantOneOf(t, after, ahead, last)
				wantGoesOn(t, after, last.epoch)
			}
		}
	}
}

// wantGoesOn saves on a disk behind a loss, with the epoch that was cut and with the next one.
func wantGoesOn(t *testing.T, d *disk.Disk, epoch int) {
	t.Helper()
	m := open(t, d, 1)
	if _, n, _ := m.Latest(); n == epoch {
		epoch++
	}
	for range 2 {
		if epoch > greatest {
			return
		}
		wantSave(t, m, []uint64{uint64(epoch)}, epoch, api.OK)
		if !isLatest(open(t, d, 1), kept{[]uint64{uint64(epoch)}, epoch}) {
			t.Fatalf("what was saved behind a loss is not there")
		}
		epoch++
	}
}

// sumOf is the sum that a sector says that it has.
func sumOf(s []byte) uint32 {
	return uint32(s[244]) | uint32(s[245])<<8 | uint32(s[246])<<16 | uint32(s[247])<<24
}

// bodySum is the sum of a slot's sector.
func bodySum(fields []uint64, epoch int) uint32 { return sumOf(slotByWords(fields, epoch)) }

// forge changes the bits of the field i, which takes ten bytes, so that the slot's sum is s. Each bit that is turned turns the same bits of the sum, whatever the others are: which ones are to be turned is worked out from these.
func forge(fields []uint64, i, epoch int, s uint32) []uint64 {
	type row struct {
		turns uint32 // of the sum
		of    uint64 // by these bits of the field
	}
	fields = slices.Clone(fields)
	fields[i] = 1 << 63
	zero := bodySum(fields, epoch)
	var rows []row
	for b := range 63 {
		fields[i] = 1<<63 | 1<<b
		r := row{bodySum(fields, epoch) ^ zero, 1 << b}
		for _, o := range rows {
			if r.turns>>(31-bits.LeadingZeros32(o.turns))&1 == 1 {
				r.turns, r.of = r.turns^o.turns, r.of^o.of
			}
		}
		if r.turns != 0 {
			rows = append(rows, r)
		}
	}
	left, of := zero^s, uint64(0)
	for _, o := range rows {
		if left>>(31-bits.LeadingZeros32(o.turns))&1 == 1 {
			left, of = left^o.turns, of^o.of
		}
	}
	fields[i] = 1<<63 | of
	return fields
}

// long are n fields of ten bytes each.
func (d *dice) long(n int) []uint64 {
	l := make([]uint64, n)
	for i := range l {
		l[i] = d.throw() | 1<<63
	}
	return l
}

// Torn over another epoch, so that the sum of what is left is right, and its body has the form of one, too.
func TestTornWhateverSumsAre(t *testing.T) {
	d := dice(101)
	for range 300 {
		first, second, third := 1+d.below(1000), 1001+d.below(1000), 2001+d.below(1000)
		old, young := d.long(20), d.long(20)
		at := 30 + d.below(210)
		mixed := append(slices.Clone(slotByWords(young, third)[:at]), slotByWords(old, first)[at:244]...)
		old = forge(old, 0, first, crc32.ChecksumIEEE(mixed)) // what it changes is gone where the write is torn
		on := newDisk(t, 4)
		m := open(t, on, 1)
		wantSave(t, m, old, first, api.OK)
		wantSave(t, m, []uint64{7}, second, api.OK)
		on.Cut(1)
		wantSave(t, m, young, third, api.ErrDown)
		after, _ := on.Lose(api.Loss{Torn: 0, At: at})
		if s, _ := after.Read(1); sumOf(s) != crc32.ChecksumIEEE(s[:244]) {
			t.Fatal("the sum of what is left is not right: it is not asked whether that counts")
		}
		wantLatest(t, open(t, after, 1), []uint64{7}, second, 1)
	}
}

// Over bytes 0 the sum that is left is 0.
func TestTornOverBytesNoughtWhateverSumsAre(t *testing.T) {
	d := dice(102)
	for range 300 {
		young, epoch := d.long(20), 1+d.below(greatest)
		at := 30 + d.below(210)
		for i := range young { // the fields that are torn off are 0, so that a sum of all is one of what is left
			if 11+10*(i+1) > at {
				young[i] = 0
			}
		}
		young = forge(young, 0, epoch, 0)
		on := newDisk(t, 4)
		m := open(t, on, 1)
		on.Cut(1)
		wantSave(t, m, young, epoch, api.ErrDown)
		for at := 100; at < 248; at++ {
			after, _ := on.Lose(api.Loss{Torn: 0, At: at})
			s, _ := after.Read(1)
			if at > 232 && sumOf(s) != crc32.ChecksumIEEE(s[:244]) {
				t.Fatal("the sum of what is left is not right: it is not asked whether that counts")
			}
			wantNone(t, open(t, after, 1))
		}
	}
}

// A disk that loses power again and again.
func TestManyLossesOfPower(t *testing.T) {
	there, gone, all := 0, 0, 0
	for seed := range 60 {
		d := dice(2000 + seed)
		on := newDisk(t, 4)
		var ahead, last kept
		for range 60 {
			if wantOneOf(t, on, ahead, last) {
				there++
				ahead = last
			} else {
				gone++
			}
			m := open(t, on, 1)
			on.Cut(d.below(9))
			for {
				last = kept{d.fields(), ahead.epoch + 1 + d.below([]int{1, 3, 300, 70000}[d.below(4)])}
				e := m.Save(last.fields, last.epoch)
				if e == api.ErrDown {
					break
				}
				if e != api.OK {
					t.Fatalf("Save: error %d", e)
				}
				all++
				ahead = last
			}
			if !isLatest(m, ahead) {
				t.Fatal("a Save that is refused changes what is told")
			}
			on, _ = on.Lose(d.loss(len(on.Pending())))
		}
	}
	if there < 200 || gone < 1000 || all < 1000 {
		t.Errorf("%d are there, %d are gone, %d are saved: too few to tell", there, gone, all)
	}
}
