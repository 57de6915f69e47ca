package stamp_test

import (
	"bytes"
	"hash/crc32"
	"math"
	"slices"
	"testing"

	"tabulary/api"
	"tabulary/stamp"
)

// unlike has eight bytes no two of which are the same.
const unlike = 0x0102030405060708

// stamps are edges of the 64 bits, and one with each byte alone.
func stamps() []uint64 {
	l := []uint64{5, 6, unlike, 0xf0e1d2c3b4a59687, math.MaxInt64, math.MaxUint64, math.MaxUint64 - 1, 1<<24 + 1, 1000000000<<24 + 4096}
	for i := range 8 {
		l = append(l, 1<<(8*i), 1<<(8*i+7), 255<<(8*i))
	}
	return l
}

func kinds() []byte { return []byte{1, 2, 3, 127, 128, 254, 255} }

// lengths are those that a body may have, at the edges.
func lengths() []int { return []int{0, 1, 2, 8, 127, 128, 231, 232, 233} }

// counted has n bytes, none of them 0.
func counted(n int) []byte {
	b := make([]byte, n)
	for i := range b {
		b[i] = byte(i%255 + 1)
	}
	return b
}

// plainSum is chapter 2's words, bit by bit.
func plainSum(b []byte) uint32 {
	bits := uint32(math.MaxUint32)
	for _, c := range b {
		bits ^= uint32(c)
		for range 8 {
			low := bits & 1
			bits >>= 1
			if low == 1 {
				bits ^= 0xedb88320
			}
		}
	}
	return ^bits
}

// wrapByWords is the chapter's words, byte by byte, of whatever it is given: also of what may not be.
func wrapByWords(mark uint64, kind byte, length int, body []byte) []byte {
	var eight []byte
	for i := 7; i >= 0; i-- {
		eight = append(eight, byte(mark>>(8*i)))
	}
	b := append(slices.Clone(eight), kind, byte(length))
	b = append(b, body...)
	for len(b) < 244 {
		b = append(b, 0)
	}
	b = append(b, 0, 0, 0, 0)
	b = append(b, eight...)
	return summed(b)
}

// summed is a sector with the right sum in its place.
func summed(b []byte) []byte {
	b = slices.Clone(b)
	s := plainSum(b[:244])
	for i := range 4 {
		b[244+i] = byte(s >> (8 * i))
	}
	return b
}

// with is a sector with a byte that is another one, and a sum that is wrong, if it was right.
func with(b []byte, at int, c byte) []byte {
	b = slices.Clone(b)
	b[at] = c
	return b
}

func wrap(t *testing.T, mark uint64, kind byte, body []byte) []byte {
	t.Helper()
	b, e := stamp.Wrap(mark, kind, body)
	if e != api.OK {
		t.Fatalf("Wrap(%d, %d, %v): error %d", mark, kind, body, e)
	}
	return b
}

func wantWrap(t *testing.T, mark uint64, kind byte, body, need []byte) {
	t.Helper()
	if b := wrap(t, mark, kind, body); !bytes.Equal(b, need) {
		t.Fatalf("Wrap(%d, %d, %v):\n%v, not\n%v", mark, kind, body, b, need)
	}
}

func wantNoWrap(t *testing.T, mark uint64, kind byte, body []byte, need api.Errno) {
	t.Helper()
	if b, e := stamp.Wrap(mark, kind, body); e != need || len(b) != 0 {
		t.Fatalf("Wrap(%d, %d, %d bytes): %v, error %d, not %d", mark, kind, len(body), b, e, need)
	}
}

func wantOpen(t *testing.T, b []byte, mark uint64, kind byte, body []byte) {
	t.Helper()
	m, k, x, e := stamp.Open(b)
	if e != api.OK || m != mark || k != kind || !bytes.Equal(x, body) {
		t.Fatalf("Open(%v): %d, %d, %v, error %d; not %d, %d, %v", b, m, k, x, e, mark, kind, body)
	}
}

func wantRefusal(t *testing.T, b []byte, need api.Errno) {
	t.Helper()
	m, k, x, e := stamp.Open(b)
	if e != need || m != 0 || k != 0 || len(x) != 0 {
		t.Fatalf("Open(%v): %d, %d, %v, error %d; not %d", b, m, k, x, e, need)
	}
}

func wantTorn(t *testing.T, old, young []byte, at int, need []byte) {
	t.Helper()
	if b := stamp.Torn(old, young, at); !bytes.Equal(b, need) {
		t.Fatalf("Torn(%v, %v, %d): %v, not %v", old, young, at, b, need)
	}
}

// P7.1

func TestRoom(t *testing.T) {
	if stamp.Room != 233 {
		t.Fatalf("Room is %d", stamp.Room)
	}
}

func TestWrapExample(t *testing.T) {
	b := wrap(t, 5, 1, nil)
	if len(b) != 256 || !bytes.Equal(b[:10], []byte{0, 0, 0, 0, 0, 0, 0, 5, 1, 0}) || !bytes.Equal(b[10:244], make([]byte, 234)) {
		t.Fatalf("Wrap: %v", b)
	}
	if !bytes.Equal(b[244:248], []byte{0xac, 0xd8, 0xfc, 0xdd}) || !bytes.Equal(b[248:], []byte{0, 0, 0, 0, 0, 0, 0, 5}) {
		t.Fatalf("behind the bytes 0: %v", b[244:])
	}
	wantWrap(t, 5, 1, []byte{}, b)
}

func TestWrapByteByByte(t *testing.T) {
	b := wrap(t, unlike, 9, []byte("abc"))
	need := append([]byte{1, 2, 3, 4, 5, 6, 7, 8, 9, 3, 'a', 'b', 'c'}, make([]byte, 231)...)
	s := crc32.ChecksumIEEE(need)
	need = append(need, byte(s), byte(s>>8), byte(s>>16), byte(s>>24), 1, 2, 3, 4, 5, 6, 7, 8)
	if !bytes.Equal(b, need) {
		t.Fatalf("Wrap:\n%v, not\n%v", b, need)
	}
	if four := b[244:248]; four[0] == four[3] || four[1] == four[2] {
		t.Fatalf("the sum's bytes are %v: their order is not asked", four)
	}
}

func TestWrapOfTheFullRoom(t *testing.T) {
	b := wrap(t, math.MaxUint64, 255, counted(233))
	eight := bytes.Repeat([]byte{255}, 8)
	if !bytes.Equal(b[:8], eight) || b[8] != 255 || b[9] != 233 || !bytes.Equal(b[10:243], counted(233)) || b[243] != 0 || !bytes.Equal(b[248:], eight) {
		t.Fatalf("Wrap: %v", b)
	}
}

func TestWrapAtTheEdges(t *testing.T) {
	for _, mark := range stamps() {
		for _, kind := range kinds() {
			for _, n := range lengths() {
				for _, body := range [][]byte{counted(n), make([]byte, n), bytes.Repeat([]byte{255}, n)} {
					wantWrap(t, mark, kind, body, wrapByWords(mark, kind, n, body))
				}
			}
		}
	}
}

func TestWrapOfEachLengthAndKind(t *testing.T) {
	for n := range stamp.Room + 1 {
		wantWrap(t, unlike, 7, counted(n), wrapByWords(unlike, 7, n, counted(n)))
	}
	for kind := 1; kind < 256; kind++ {
		wantWrap(t, unlike, byte(kind), counted(11), wrapByWords(unlike, byte(kind), 11, counted(11)))
	}
}

func TestWrapReadsTheBodyToItsLengthAlone(t *testing.T) {
	room := counted(300)
	for _, n := range lengths() {
		wantWrap(t, 5, 1, room[:n], wrapByWords(5, 1, n, counted(n)))
	}
}

func TestWrapRefuses(t *testing.T) {
	for _, n := range append(lengths(), 234, 300, 1<<16) {
		body := counted(n)
		wantNoWrap(t, 0, 1, body, api.ErrInvalid)
		wantNoWrap(t, 0, 255, body, api.ErrInvalid)
		wantNoWrap(t, 1, 0, body, api.ErrInvalid)
		wantNoWrap(t, math.MaxUint64, 0, body, api.ErrInvalid)
		wantNoWrap(t, 0, 0, body, api.ErrInvalid)
	}
	for _, n := range []int{234, 235, 243, 244, 246, 255, 256, 257, 256 + 233, 1 << 16, 1<<16 + 5} {
		wantNoWrap(t, 1, 1, counted(n), api.ErrBig)
		wantNoWrap(t, math.MaxUint64, 255, make([]byte, n), api.ErrBig)
	}
}

func TestWrapKeepsToItsOwnMemory(t *testing.T) {
	for _, n := range lengths() {
		room := counted(300)
		b := wrap(t, unlike, 4, room[:n])
		if !bytes.Equal(room, counted(300)) {
			t.Fatalf("Wrap wrote into its argument: %v", room)
		}
		need := wrapByWords(unlike, 4, n, counted(n))
		clear(room)
		if !bytes.Equal(b, need) {
			t.Fatal("Wrap keeps its argument")
		}
		other := wrap(t, unlike, 4, counted(n))
		clear(other[:cap(other)])
		if !bytes.Equal(b, need) {
			t.Fatal("two answers share memory")
		}
		fill(b[:cap(b)])
		if !bytes.Equal(room, make([]byte, 300)) {
			t.Fatal("Wrap hands out its argument")
		}
	}
}

// fill overwrites all bytes.
func fill(b []byte) {
	for i := range b {
		b[i] = 'x'
	}
}

// P7.2

func TestOpenExamples(t *testing.T) {
	wantRefusal(t, make([]byte, 256), api.ErrNone)
	wantOpen(t, wrapByWords(5, 1, 0, nil), 5, 1, nil)
	wantOpen(t, wrapByWords(unlike, 9, 3, []byte("abc")), unlike, 9, []byte("abc"))
}

func TestOpenAtTheEdges(t *testing.T) {
	for _, mark := range stamps() {
		for _, kind := range kinds() {
			for _, n := range lengths() {
				for _, body := range [][]byte{counted(n), make([]byte, n), bytes.Repeat([]byte{255}, n)} {
					wantOpen(t, wrapByWords(mark, kind, n, body), mark, kind, body)
				}
			}
		}
	}
}

func TestOpenOfAnotherLength(t *testing.T) {
	right := wrapByWords(unlike, 1, 3, []byte("abc"))
	double := append(slices.Clone(right), right...)
	wantRefusal(t, nil, api.ErrShort)
	for _, n := range []int{0, 1, 7, 8, 10, 244, 248, 254, 255} {
		wantRefusal(t, right[:n], api.ErrShort) // the others stand in its spare room
		wantRefusal(t, make([]byte, n), api.ErrShort)
	}
	for _, n := range []int{257, 258, 264, 511, 512} {
		wantRefusal(t, double[:n], api.ErrShort)
		wantRefusal(t, make([]byte, n), api.ErrShort)
	}
	wantRefusal(t, right[1:], api.ErrShort)
	wantRefusal(t, append([]byte{0}, right...), api.ErrShort)
	wantRefusal(t, make([]byte, 1<<16), api.ErrShort)
	wantOpen(t, double[:256], unlike, 1, []byte("abc"))
	wantOpen(t, double[256:], unlike, 1, []byte("abc"))
}

func TestOpenOfTheStampNought(t *testing.T) {
	right := wrapByWords(unlike, 1, 3, []byte("abc"))
	none := slices.Clone(right)
	clear(none[:8])
	wantRefusal(t, none, api.ErrNone) // also with another last stamp, and another sum
	wantRefusal(t, summed(none), api.ErrNone)
	wantRefusal(t, wrapByWords(0, 1, 3, []byte("abc")), api.ErrNone)
	wantRefusal(t, wrapByWords(0, 0, 255, counted(234)), api.ErrNone)
	for at := 8; at < 256; at++ {
		wantRefusal(t, with(make([]byte, 256), at, 1), api.ErrNone)
		wantRefusal(t, with(make([]byte, 256), at, 255), api.ErrNone)
	}
	for at := range 8 {
		wantRefusal(t, with(make([]byte, 256), at, 1), api.ErrStale)
		wantRefusal(t, with(make([]byte, 256), at, 128), api.ErrStale)
	}
}

func TestOpenOfAnotherLastStamp(t *testing.T) {
	for _, mark := range stamps() {
		right := wrapByWords(mark, 1, 3, []byte("abc"))
		for at := 248; at < 256; at++ {
			for bit := range 8 {
				wantRefusal(t, with(right, at, right[at]^1<<bit), api.ErrStale)
			}
		}
		none := slices.Clone(right)
		clear(none[248:])
		wantRefusal(t, none, api.ErrStale)
		back := slices.Clone(right)
		slices.Reverse(back[248:])
		if !bytes.Equal(back, right) {
			wantRefusal(t, back, api.ErrStale)
		}
	}
	for at := range 8 { // the first one is another one, and the sum is right
		right := wrapByWords(unlike, 1, 3, []byte("abc"))
		wantRefusal(t, summed(with(right, at, right[at]^1)), api.ErrStale)
	}
}

func TestOpenOfTurnedBits(t *testing.T) {
	for _, mark := range []uint64{1, 1 << 63, unlike, math.MaxUint64} {
		right := wrapByWords(mark, 1, 100, counted(100))
		for at := range 256 {
			for bit := range 8 {
				turned := with(right, at, right[at]^1<<bit)
				switch {
				case bytes.Equal(turned[:8], make([]byte, 8)):
					wantRefusal(t, turned, api.ErrNone)
				case at < 8 || at >= 248:
					wantRefusal(t, turned, api.ErrStale)
				default:
					wantRefusal(t, turned, api.ErrSum)
				}
			}
		}
	}
}

func TestOpenOfAnotherSum(t *testing.T) {
	right := wrapByWords(unlike, 1, 3, []byte("abc"))
	back := slices.Clone(right)
	slices.Reverse(back[244:248])
	wantRefusal(t, back, api.ErrSum)
	none := slices.Clone(right)
	clear(none[244:248])
	wantRefusal(t, none, api.ErrSum)
	for _, at := range []int{8, 9, 10, 12, 13, 243, 244, 245, 246, 247} {
		for c := range 256 {
			if byte(c) != right[at] {
				wantRefusal(t, with(right, at, byte(c)), api.ErrSum)
			}
		}
	}
}

func TestOpenOfTheKindNought(t *testing.T) {
	for _, n := range lengths() {
		wantRefusal(t, wrapByWords(unlike, 0, n, counted(n)), api.ErrForm)
	}
}

func TestOpenOfTooGreatALength(t *testing.T) {
	for n := 234; n < 256; n++ {
		wantRefusal(t, wrapByWords(unlike, 1, n, nil), api.ErrForm)
		wantRefusal(t, wrapByWords(unlike, 1, n, counted(233)), api.ErrForm)
		wantRefusal(t, wrapByWords(unlike, 1, n, counted(234)), api.ErrForm)
	}
	wantOpen(t, wrapByWords(unlike, 1, 233, nil), unlike, 1, make([]byte, 233))
}

func TestOpenOfBytesBehindTheBody(t *testing.T) {
	for _, n := range lengths() {
		right := wrapByWords(unlike, 1, n, counted(n))
		for at := 10 + n; at < 244; at++ {
			wantRefusal(t, summed(with(right, at, 1)), api.ErrForm)
			wantRefusal(t, summed(with(right, at, 128)), api.ErrForm)
		}
		if n > 0 {
			wantRefusal(t, wrapByWords(unlike, 1, n-1, counted(n)), api.ErrForm)
		}
	}
	wantRefusal(t, wrapByWords(unlike, 1, 233, counted(234)), api.ErrForm)
}

func TestOpenTellsTheErrorThatIsNamedFirst(t *testing.T) {
	worst := wrapByWords(0, 0, 255, counted(234)) // the stamp, the kind, the length
	worst[250], worst[245] = 1, worst[245]^1      // the last stamp, the sum
	wantRefusal(t, worst[:255], api.ErrShort)
	wantRefusal(t, append(slices.Clone(worst), 1), api.ErrShort)
	wantRefusal(t, worst, api.ErrNone)
	worst[0] = 1
	wantRefusal(t, worst, api.ErrStale)
	worst[250], worst[248] = 0, 1
	wantRefusal(t, worst, api.ErrSum)
	worst = summed(worst)
	wantRefusal(t, worst, api.ErrForm)
	worst[8] = 1
	worst = summed(worst)
	wantRefusal(t, worst, api.ErrForm)
	worst[9] = 233
	worst = summed(worst)
	wantRefusal(t, worst, api.ErrForm)
	worst[243] = 0
	wantRefusal(t, worst, api.ErrSum)
	wantOpen(t, summed(worst), 1<<56, 1, counted(233))
}

func TestOpenKeepsToItsOwnMemory(t *testing.T) {
	for _, n := range lengths() {
		need := wrapByWords(unlike, 4, n, counted(n))
		room := append(slices.Clone(need), counted(50)...)
		_, _, body, _ := stamp.Open(room[:256])
		_, _, other, _ := stamp.Open(room[:256])
		fill(other[:cap(other)])
		if !bytes.Equal(room, append(slices.Clone(need), counted(50)...)) {
			t.Fatal("Open hands out its argument")
		}
		if !bytes.Equal(body, counted(n)) {
			t.Fatal("two answers share memory")
		}
		clear(room)
		if !bytes.Equal(body, counted(n)) {
			t.Fatal("Open keeps its argument")
		}
	}
}

func TestRefusalsLeaveTheirArgument(t *testing.T) {
	right := wrapByWords(unlike, 4, 3, []byte("abc"))
	for _, b := range [][]byte{right[:255], with(right, 255, 0), with(right, 11, 0), wrapByWords(0, 4, 3, nil), wrapByWords(5, 0, 255, counted(234))} {
		before := slices.Clone(b)
		if _, _, _, e := stamp.Open(b); e == api.OK || !bytes.Equal(b, before) {
			t.Fatalf("error %d, and %v is %v", e, before, b)
		}
	}
}

// P7.3

// places are where a write is torn, at the edges.
func places() []int {
	return []int{math.MinInt, math.MinInt32, -257, -256, -2, -1, 0, 1, 2, 8, 254, 255, 256, 257, 299, 300, 301, 1 << 16, math.MaxInt32, math.MaxInt}
}

// tornByWords asks for each byte where it stands.
func tornByWords(old, young []byte, at int) []byte {
	var b []byte
	for i, c := range young {
		if i < at && i < 256 {
			b = append(b, c)
		}
	}
	for i, c := range old {
		if i >= at || i >= 256 {
			b = append(b, c)
		}
	}
	return b
}

func TestTornExamples(t *testing.T) {
	old, young := bytes.Repeat([]byte("o"), 256), bytes.Repeat([]byte("y"), 256)
	for at := range 257 {
		wantTorn(t, old, young, at, append(bytes.Repeat([]byte("y"), at), bytes.Repeat([]byte("o"), 256-at)...))
	}
	for _, at := range []int{-1, -2, -256, math.MinInt32, math.MinInt} {
		wantTorn(t, old, young, at, old)
	}
	for _, at := range []int{257, 258, 512, math.MaxInt32, math.MaxInt} {
		wantTorn(t, old, young, at, young)
	}
}

func TestTornOfShortLists(t *testing.T) {
	wantTorn(t, nil, nil, 0, nil)
	wantTorn(t, []byte{}, []byte{}, 5, nil)
	wantTorn(t, nil, []byte("young"), 3, []byte("you"))
	wantTorn(t, nil, []byte("young"), 6, []byte("young"))
	wantTorn(t, nil, []byte("young"), 0, nil)
	wantTorn(t, []byte("old"), nil, 1, []byte("ld"))
	wantTorn(t, []byte("old"), nil, 4, nil)
	wantTorn(t, []byte("old"), []byte("young"), 2, []byte("yod"))
	wantTorn(t, []byte("old"), []byte("young"), 4, []byte("youn"))
	wantTorn(t, []byte("old and more"), []byte("young"), 4, []byte("younand more"))
	wantTorn(t, []byte("old and more"), []byte("young"), 8, []byte("youngmore"))
}

func TestTornOfLongLists(t *testing.T) {
	old, young := bytes.Repeat([]byte("o"), 300), bytes.Repeat([]byte("y"), 310)
	for _, at := range []int{256, 257, 300, 310, math.MaxInt} {
		wantTorn(t, old, young, at, append(bytes.Repeat([]byte("y"), 256), bytes.Repeat([]byte("o"), 44)...))
	}
	wantTorn(t, old, young, 255, append(bytes.Repeat([]byte("y"), 255), bytes.Repeat([]byte("o"), 45)...))
	wantTorn(t, old, young, -1, old)
	wantTorn(t, nil, young, 300, young[:256])
}

func TestTornOfAllLengths(t *testing.T) {
	many := []int{0, 1, 2, 3, 9, 255, 256, 257, 300}
	for _, n := range many {
		for _, m := range many {
			old, young := bytes.Repeat([]byte("o"), n), counted(m)
			for _, at := range append(places(), 3, 4, 10) {
				wantTorn(t, old, young, at, tornByWords(old, young, at))
			}
		}
	}
}

func TestTornKeepsToItsOwnMemory(t *testing.T) {
	for _, n := range []int{0, 3, 256, 300} {
		for _, at := range places() {
			old, young := counted(350), bytes.Repeat([]byte("y"), 350)
			need := tornByWords(counted(n), young[:n], at)
			b, other := stamp.Torn(old[:n], young[:n], at), stamp.Torn(old[:n], young[:n], at)
			fill(other[:cap(other)])
			if !bytes.Equal(old, counted(350)) || !bytes.Equal(young, bytes.Repeat([]byte("y"), 350)) {
				t.Fatal("Torn hands out its argument")
			}
			clear(old)
			clear(young)
			if !bytes.Equal(b, need) {
				t.Fatalf("Torn at %d: %v, not %v", at, b, need)
			}
		}
	}
}
