package codec_test

import (
	"bytes"
	"math"
	"math/big"
	"slices"
	"strings"
	"testing"

	"tabulary/api"
	"tabulary/codec"
)

const (
	lowest   = math.MinInt64
	greatest = math.MaxInt64
	all      = math.MaxUint64
)

// dice throws the same numbers each time.
type dice uint64

func (d *dice) throw() uint64 {
	*d = *d*6364136223846793005 + 1442695040888963407
	return uint64(*d>>32)<<32 ^ uint64(*d>>16)
}

func (d *dice) below(n int) int { return int(d.throw()>>33) % n }

func (d *dice) bytes(n int) []byte {
	b := make([]byte, n)
	for i := range b {
		b[i] = byte(d.throw() >> 40)
	}
	return b
}

// someUints are those at which one more byte is needed, their neighbours, and others.
func someUints() []uint64 {
	list := []uint64{300, all, all - 1}
	for bits := range 64 {
		list = append(list, 1<<bits-1, 1<<bits, 1<<bits+1)
	}
	d := dice(3)
	for i := range 200 {
		list = append(list, d.throw()>>(i%64))
	}
	return list
}

// someInts are the edges of the range, and what lies about 0 and about the powers of 2.
func someInts() []int64 {
	list := []int64{lowest, lowest + 1, greatest, greatest - 1, -3}
	for _, n := range someUints() {
		list = append(list, int64(n), -int64(n))
	}
	return list
}

func wantBytes(t *testing.T, what string, got, need []byte) {
	t.Helper()
	if !bytes.Equal(got, need) {
		t.Fatalf("%s: %v, not %v", what, got, need)
	}
}

// wantReader holds all that a Reader tells of itself against what is left and what it refused with.
func wantReader(t *testing.T, r *codec.Reader, left int, e api.Errno) {
	t.Helper()
	end := e
	if left > 0 {
		end = api.ErrForm
	}
	if r.Left() != left || r.Err() != e || r.End() != end {
		t.Fatalf("Left %d, Err %d, End %d, not %d, %d, %d", r.Left(), r.Err(), r.End(), left, e, end)
	}
}

// wantNothing asks for everything behind a refusal.
func wantNothing(t *testing.T, r *codec.Reader, e api.Errno) {
	t.Helper()
	for range 2 {
		wantReader(t, r, 0, e)
		if n, i := r.Uint(all), r.Int(); n != 0 || i != 0 {
			t.Fatalf("behind a refusal: Uint %d, Int %d", n, i)
		}
		if n := r.Uint(0); n != 0 {
			t.Fatalf("behind a refusal: Uint %d", n)
		}
		if s, c := r.Text(greatest), r.Byte(); s != "" || c != 0 {
			t.Fatalf("behind a refusal: Text %q, Byte %d", s, c)
		}
		if f := math.Float64bits(r.Float()); f != 0 {
			t.Fatalf("behind a refusal: Float %x", f)
		}
		for _, size := range []int{lowest, -1, 0, 1, 8, 9, greatest} {
			if n := r.Fixed(size); n != 0 {
				t.Fatalf("behind a refusal: Fixed(%d) %d", size, n)
			}
		}
		wantReader(t, r, 0, e)
	}
}

// wantUint reads a number that is there.
func wantUint(t *testing.T, b []byte, most, need uint64, left int) {
	t.Helper()
	r := codec.Read(b)
	if n := r.Uint(most); n != need {
		t.Fatalf("Uint(%d) of %v: %d, not %d", most, b, n, need)
	}
	wantReader(t, r, left, api.OK)
}

// wantNoUint reads a number that is refused.
func wantNoUint(t *testing.T, b []byte, most uint64, e api.Errno) {
	t.Helper()
	r := codec.Read(b)
	if n := r.Uint(most); n != 0 || r.Err() != e {
		t.Fatalf("Uint(%d) of %v: %d, error %d, not %d", most, b, n, r.Err(), e)
	}
	wantNothing(t, r, e)
}

// P3.1

func TestPutUint(t *testing.T) {
	for _, c := range []struct {
		n    uint64
		need []byte
	}{
		{0, []byte{0}},
		{1, []byte{1}},
		{127, []byte{127}},
		{128, []byte{128, 1}},
		{300, []byte{172, 2}},
		{1<<14 - 1, []byte{255, 127}},
		{1 << 14, []byte{128, 128, 1}},
		{1<<63 - 1, []byte{255, 255, 255, 255, 255, 255, 255, 255, 127}},
		{1 << 63, []byte{128, 128, 128, 128, 128, 128, 128, 128, 128, 1}},
		{all, []byte{255, 255, 255, 255, 255, 255, 255, 255, 255, 1}},
	} {
		wantBytes(t, "PutUint", codec.PutUint(nil, c.n), c.need)
		wantBytes(t, "PutUint", codec.PutUint([]byte{}, c.n), c.need)
		wantBytes(t, "PutUint", codec.PutUint([]byte{9, 8}, c.n), append([]byte{9, 8}, c.need...))
	}
}

// plainUint is the chapter's words for how a number is put.
func plainUint(n *big.Int) []byte {
	rest, group, size := new(big.Int).Set(n), new(big.Int), big.NewInt(128)
	var put []byte
	for {
		rest.DivMod(rest, size, group)
		if rest.Sign() == 0 {
			return append(put, byte(group.Uint64()))
		}
		put = append(put, byte(group.Uint64()+128))
	}
}

func TestPutUintOfMany(t *testing.T) {
	for _, n := range someUints() {
		wantBytes(t, "PutUint", codec.PutUint(nil, n), plainUint(new(big.Int).SetUint64(n)))
	}
}

func TestPutInt(t *testing.T) {
	wantBytes(t, "PutInt(-3)", codec.PutInt(nil, -3), []byte{5})
	wantBytes(t, "PutInt(0)", codec.PutInt(nil, 0), []byte{0})
	wantBytes(t, "PutInt(-1)", codec.PutInt(nil, -1), []byte{1})
	wantBytes(t, "PutInt(1)", codec.PutInt([]byte{7}, 1), []byte{7, 2})
	wantBytes(t, "PutInt(64)", codec.PutInt(nil, 64), []byte{128, 1})
	wantBytes(t, "the least", codec.PutInt(nil, lowest), codec.PutUint(nil, all))
	wantBytes(t, "the greatest", codec.PutInt(nil, greatest), codec.PutUint(nil, all-1))
	for _, n := range someInts() {
		twice := new(big.Int).Mul(big.NewInt(2), big.NewInt(n))
		if n < 0 {
			twice.Sub(twice.Neg(twice), big.NewInt(1))
		}
		wantBytes(t, "PutInt", codec.PutInt(nil, n), plainUint(twice))
	}
}

func TestPutText(t *testing.T) {
	wantBytes(t, "nothing", codec.PutText(nil, ""), []byte{0})
	wantBytes(t, "abc", codec.PutText([]byte{9}, "abc"), []byte("\x09\x03abc"))
	wantBytes(t, "any bytes", codec.PutText(nil, "\xff\x00\x80"), []byte("\x03\xff\x00\x80"))
	wantBytes(t, "bytes, not runes", codec.PutText(nil, "ü"), []byte("\x02\xc3\xbc"))
	long := strings.Repeat("x", 300)
	wantBytes(t, "long", codec.PutText(nil, long), []byte("\xac\x02"+long))
}

func TestPutFloat(t *testing.T) {
	for _, c := range []struct {
		f    float64
		need string
	}{
		{0, "\x00\x00\x00\x00\x00\x00\x00\x00"},
		{math.Copysign(0, -1), "\x00\x00\x00\x00\x00\x00\x00\x00"},
		{1, "\x3f\xf0\x00\x00\x00\x00\x00\x00"},
		{-2.5, "\xc0\x04\x00\x00\x00\x00\x00\x00"},
		{math.MaxFloat64, "\x7f\xef\xff\xff\xff\xff\xff\xff"},
		{math.SmallestNonzeroFloat64, "\x00\x00\x00\x00\x00\x00\x00\x01"},
		{-math.SmallestNonzeroFloat64, "\x80\x00\x00\x00\x00\x00\x00\x01"},
		{math.Inf(1), "\x7f\xf0\x00\x00\x00\x00\x00\x00"},
		{math.Inf(-1), "\xff\xf0\x00\x00\x00\x00\x00\x00"},
	} {
		wantBytes(t, "PutFloat", codec.PutFloat(nil, c.f), []byte(c.need))
		wantBytes(t, "PutFloat", codec.PutFloat([]byte{5}, c.f), []byte("\x05"+c.need))
	}
}

// someNaNs are bits of NaNs, quiet ones and others, of both signs.
func someNaNs() []uint64 {
	list := []uint64{0x7ff8000000000001, 0x7ff8000000000000, 0xfff8000000000000, 0xfff8000000000001, 0x7ff0000000000001, 0xfff0000000000001, 0x7fffffffffffffff, all, 0x7ff8000000000002, 0x7ff0000000000002}
	d := dice(5)
	for range 50 {
		list = append(list, 0x7ff0000000000000|d.throw()|1)
	}
	return list
}

func TestPutFloatOfEachNaN(t *testing.T) {
	for _, bits := range someNaNs() {
		wantBytes(t, "a NaN", codec.PutFloat(nil, math.Float64frombits(bits)), []byte("\x7f\xf8\x00\x00\x00\x00\x00\x01"))
	}
}

func TestPutFixed(t *testing.T) {
	whole := []byte{1, 2, 3, 4, 5, 6, 7, 8}
	for size := range 9 {
		wantBytes(t, "PutFixed", codec.PutFixed(nil, 0x0102030405060708, size), whole[8-size:])
		wantBytes(t, "behind", codec.PutFixed([]byte{9}, 0x0102030405060708, size), append([]byte{9}, whole[8-size:]...))
		wantBytes(t, "all bits", codec.PutFixed(nil, all, size), bytes.Repeat([]byte{255}, size))
	}
	for _, size := range []int{9, 10, 64, math.MaxInt32, greatest} {
		wantBytes(t, "above 8", codec.PutFixed(nil, 0x0102030405060708, size), whole)
	}
	for _, size := range []int{0, -1, -8, math.MinInt32, lowest} {
		wantBytes(t, "below 1", codec.PutFixed(nil, 0x0102030405060708, size), nil)
		wantBytes(t, "below 1", codec.PutFixed([]byte{4, 5}, all, size), []byte{4, 5})
	}
}

// puts are all ways to put something behind b.
func puts() []func(b []byte) []byte {
	return []func(b []byte) []byte{
		func(b []byte) []byte { return codec.PutUint(b, 300) },
		func(b []byte) []byte { return codec.PutInt(b, -300) },
		func(b []byte) []byte { return codec.PutText(b, "text") },
		func(b []byte) []byte { return codec.PutText(b, "") },
		func(b []byte) []byte { return codec.PutFloat(b, 2.5) },
		func(b []byte) []byte { return codec.PutFixed(b, 77, 3) },
		func(b []byte) []byte { return codec.PutFixed(b, 77, 0) },
	}
}

func TestPutKeepsToItsOwnMemory(t *testing.T) {
	for _, put := range puts() {
		for _, n := range []int{0, 3} {
			room := []byte("abc and more of it, with much room behind")
			got := put(room[:n])
			if string(room) != "abc and more of it, with much room behind" {
				t.Fatalf("put into its argument: %q", room)
			}
			need := append([]byte("abc")[:n:n], put(nil)...)
			clear(room)
			wantBytes(t, "with its argument changed", got, need)
			other := put([]byte("abc")[:n])
			got = got[:cap(got)]
			for i := range got {
				got[i] = 'x'
			}
			wantBytes(t, "with another answer changed", other, need)
			if !bytes.Equal(room, make([]byte, len(room))) {
				t.Fatalf("the answer is its argument: %q", room)
			}
		}
	}
}

// P3.2

func TestReadOfNothing(t *testing.T) {
	for _, b := range [][]byte{nil, {}} {
		wantReader(t, codec.Read(b), 0, api.OK)
		for _, read := range []func(r *codec.Reader){
			func(r *codec.Reader) { r.Uint(9) },
			func(r *codec.Reader) { r.Int() },
			func(r *codec.Reader) { r.Text(9) },
			func(r *codec.Reader) { r.Text(-1) },
			func(r *codec.Reader) { r.Float() },
			func(r *codec.Reader) { r.Fixed(1) },
			func(r *codec.Reader) { r.Byte() },
		} {
			r := codec.Read(b)
			read(r)
			wantNothing(t, r, api.ErrShort)
		}
	}
}

func TestReadFromTheBeginningOn(t *testing.T) {
	r := codec.Read([]byte{7, 172, 2, 5, 3, 'a', 'b', 'c', 1, 2, 9})
	wantReader(t, r, 11, api.OK)
	if c := r.Byte(); c != 7 {
		t.Fatalf("Byte: %d", c)
	}
	wantReader(t, r, 10, api.OK)
	if n := r.Uint(1000); n != 300 {
		t.Fatalf("Uint: %d", n)
	}
	wantReader(t, r, 8, api.OK)
	if n := r.Int(); n != -3 {
		t.Fatalf("Int: %d", n)
	}
	wantReader(t, r, 7, api.OK)
	if s := r.Text(3); s != "abc" {
		t.Fatalf("Text: %q", s)
	}
	wantReader(t, r, 3, api.OK)
	if n := r.Fixed(2); n != 258 {
		t.Fatalf("Fixed: %d", n)
	}
	wantReader(t, r, 1, api.OK)
	if c := r.Byte(); c != 9 {
		t.Fatalf("Byte: %d", c)
	}
	wantReader(t, r, 0, api.OK)
	if c := r.Byte(); c != 0 {
		t.Fatalf("Byte behind the end: %d", c)
	}
	wantNothing(t, r, api.ErrShort)
}

func TestEndWithBytesLeft(t *testing.T) {
	r := codec.Read([]byte{1, 2})
	for left := range 2 {
		wantReader(t, r, 2-left, api.OK)
		if e := r.End(); e != api.ErrForm {
			t.Fatalf("End: %d", e)
		}
		if c := r.Byte(); int(c) != left+1 { // End is asked, and no refusal of its own
			t.Fatalf("Byte: %d", c)
		}
	}
	if e := r.End(); e != api.OK {
		t.Fatalf("End: %d", e)
	}
}

func TestTheFirstRefusalStays(t *testing.T) {
	r := codec.Read([]byte{9, 128, 0, 1, 1, 1, 1, 1, 1, 1, 1, 1})
	r.Uint(8)
	wantNothing(t, r, api.ErrBig)
	r = codec.Read([]byte{128, 0, 1, 1, 1, 1, 1, 1, 1, 1, 1})
	r.Int()
	wantNothing(t, r, api.ErrForm)
	r = codec.Read([]byte{5, 1, 1})
	r.Text(9)
	wantNothing(t, r, api.ErrShort)
	r = codec.Read([]byte{1, 1})
	r.Fixed(3)
	wantNothing(t, r, api.ErrShort)
}

func TestNoReader(t *testing.T) {
	var none *codec.Reader
	wantNothing(t, none, api.ErrNil)
	wantNothing(t, new(codec.Reader), api.ErrNil)
	wantNothing(t, &codec.Reader{}, api.ErrNil)
	var plain codec.Reader
	wantNothing(t, &plain, api.ErrNil)
}

func TestReadKeepsNoArgument(t *testing.T) {
	room := []byte{172, 2, 3, 'a', 'b', 'c', 1, 2, 3}
	before := slices.Clone(room)
	r := codec.Read(room[:6])
	wantReader(t, r, 6, api.OK) // what lies behind the length is not read
	clear(room[:6])
	if n, s := r.Uint(1000), r.Text(9); n != 300 || s != "abc" {
		t.Fatalf("with the argument changed: %d %q", n, s)
	}
	wantReader(t, r, 0, api.OK)
	if c := r.Byte(); c != 0 {
		t.Fatalf("spare room was read: %d", c)
	}
	wantNothing(t, r, api.ErrShort)
	wantBytes(t, "the argument", room, append(make([]byte, 6), before[6:]...))
}

func TestReadersGoTheirOwnWays(t *testing.T) {
	b := []byte{1, 2, 3}
	one, other := codec.Read(b), codec.Read(b)
	one.Fixed(9)
	wantReader(t, one, 0, api.ErrShort)
	wantReader(t, other, 3, api.OK)
	if n := other.Fixed(3); n != 0x010203 {
		t.Fatalf("Fixed: %x", n)
	}
	wantBytes(t, "the argument", b, []byte{1, 2, 3})
}

// P3.3

func TestUint(t *testing.T) {
	wantUint(t, []byte{172, 2}, 1000, 300, 0)
	wantUint(t, []byte{172, 2}, 300, 300, 0)
	wantUint(t, []byte{0}, 0, 0, 0)
	wantUint(t, []byte{0, 0, 0}, all, 0, 2)
	wantUint(t, []byte{127, 200}, 127, 127, 1)
	wantUint(t, []byte{255, 255, 255, 255, 255, 255, 255, 255, 255, 1, 255}, all, all, 1)
	wantUint(t, []byte{128, 128, 128, 128, 128, 128, 128, 128, 128, 1}, 1<<63, 1<<63, 0)
}

func TestUintOfBytesThatEnd(t *testing.T) {
	wantNoUint(t, []byte{128}, 1000, api.ErrShort)
	whole := codec.PutUint(nil, all)
	for n := range whole {
		wantNoUint(t, whole[:n], all, api.ErrShort)
		wantNoUint(t, whole[:n], 0, api.ErrShort)
		wantNoUint(t, bytes.Repeat([]byte{128}, n), all, api.ErrShort)
	}
}

func TestUintOfMoreThanTenBytes(t *testing.T) {
	for _, c := range []byte{128, 129, 255} {
		for _, n := range []int{10, 11, 12, 300} {
			wantNoUint(t, bytes.Repeat([]byte{c}, n), all, api.ErrForm)
			wantNoUint(t, append(bytes.Repeat([]byte{c}, n), 1), all, api.ErrForm)
			wantNoUint(t, append(bytes.Repeat([]byte{c}, n), 0), all, api.ErrForm)
		}
	}
	nine := bytes.Repeat([]byte{128}, 9)
	wantNoUint(t, append(nine, 129), all, api.ErrForm) // the tenth byte says that another one follows
}

func TestUintNotOfAsFewBytesAsThereMayBe(t *testing.T) {
	wantNoUint(t, []byte{128, 0}, all, api.ErrForm)
	wantNoUint(t, []byte{128, 0}, 0, api.ErrForm)
	wantNoUint(t, []byte{172, 130, 0, 7}, all, api.ErrForm)
	for n := range 10 {
		for _, c := range []byte{128, 129, 255} {
			b := append(bytes.Repeat([]byte{c}, n+1), 0)
			wantNoUint(t, b, all, api.ErrForm)
			wantNoUint(t, append(b, 1, 2, 3), 0, api.ErrForm)
		}
	}
}

func TestUintAboveTheRange(t *testing.T) {
	for _, c := range []byte{128, 255} {
		nine := bytes.Repeat([]byte{c}, 9)
		for last := 2; last < 256; last++ {
			wantNoUint(t, append(slices.Clone(nine), byte(last)), all, api.ErrForm)
			wantNoUint(t, append(slices.Clone(nine), byte(last), 1), 0, api.ErrForm)
		}
	}
}

func TestUintAboveMost(t *testing.T) {
	wantNoUint(t, []byte{9}, 8, api.ErrBig)
	wantNoUint(t, []byte{172, 2, 0}, 299, api.ErrBig)
	wantNoUint(t, []byte{1}, 0, api.ErrBig)
	for _, n := range someUints() {
		b := codec.PutUint(nil, n)
		wantUint(t, append(b, 5), n, n, 1)
		if n > 0 {
			wantNoUint(t, b, n-1, api.ErrBig)
			wantNoUint(t, b, 0, api.ErrBig)
			wantNoUint(t, b[:len(b)-1], 0, api.ErrShort) // ErrBig comes at the end
		}
	}
}

// plainRead is the chapter's words for how a number is read, and how many bytes of b it takes.
func plainRead(b []byte, most uint64) (uint64, int, api.Errno) {
	sum := new(big.Int)
	for i := 0; ; i++ {
		if i == len(b) {
			return 0, 0, api.ErrShort
		}
		group := big.NewInt(int64(b[i] & 127))
		sum.Add(sum, group.Lsh(group, uint(7*i)))
		follows := b[i] >= 128
		if follows && i == 9 || !follows && b[i] == 0 && i > 0 || !sum.IsUint64() {
			return 0, 0, api.ErrForm
		}
		if follows {
			continue
		}
		if sum.Uint64() > most {
			return 0, 0, api.ErrBig
		}
		return sum.Uint64(), i + 1, api.OK
	}
}

func wantAsPlain(t *testing.T, b []byte, most uint64) {
	t.Helper()
	n, size, e := plainRead(b, most)
	if e != api.OK {
		wantNoUint(t, b, most, e)
		return
	}
	wantUint(t, b, most, n, len(b)-size)
}

func TestUintOfManyBytes(t *testing.T) {
	for first := range 256 {
		wantAsPlain(t, []byte{byte(first)}, all)
		for second := range 256 {
			wantAsPlain(t, []byte{byte(first), byte(second)}, all)
			wantAsPlain(t, []byte{byte(first), byte(second)}, 8191)
		}
	}
	few, d := []byte{0, 1, 2, 3, 127, 128, 129, 255}, dice(8)
	for range 20000 {
		b := bytes.Repeat([]byte{few[5+d.below(3)]}, d.below(11))
		for range d.below(4) {
			b = append(b, few[d.below(len(few))])
		}
		wantAsPlain(t, b, all)
		wantAsPlain(t, b, d.throw()>>d.below(64))
	}
}

func TestInt(t *testing.T) {
	for _, n := range someInts() {
		r := codec.Read(append(codec.PutInt(nil, n), 77))
		if got := r.Int(); got != n {
			t.Fatalf("Int: %d, not %d", got, n)
		}
		wantReader(t, r, 1, api.OK)
	}
	r := codec.Read([]byte{5, 255, 255, 255, 255, 255, 255, 255, 255, 255, 1, 254, 255, 255, 255, 255, 255, 255, 255, 255, 1})
	for _, n := range []int64{-3, lowest, greatest} {
		if got := r.Int(); got != n {
			t.Fatalf("Int: %d, not %d", got, n)
		}
	}
	wantReader(t, r, 0, api.OK)
}

func TestIntRefuses(t *testing.T) {
	for _, c := range []struct {
		b []byte
		e api.Errno
	}{
		{nil, api.ErrShort},
		{[]byte{129}, api.ErrShort},
		{[]byte{129, 0}, api.ErrForm},
		{[]byte{255, 255, 255, 255, 255, 255, 255, 255, 255, 2}, api.ErrForm},
		{bytes.Repeat([]byte{129}, 11), api.ErrForm},
	} {
		r := codec.Read(c.b)
		if n := r.Int(); n != 0 {
			t.Fatalf("Int of %v: %d", c.b, n)
		}
		wantNothing(t, r, c.e)
	}
}

// P3.4

func wantText(t *testing.T, b string, most int, need string, left int) {
	t.Helper()
	r := codec.Read([]byte(b))
	if s := r.Text(most); s != need {
		t.Fatalf("Text(%d) of %q: %q, not %q", most, b, s, need)
	}
	wantReader(t, r, left, api.OK)
}

func wantNoText(t *testing.T, b string, most int, e api.Errno) {
	t.Helper()
	r := codec.Read([]byte(b))
	if s := r.Text(most); s != "" || r.Err() != e {
		t.Fatalf("Text(%d) of %q: %q, error %d, not %d", most, b, s, r.Err(), e)
	}
	wantNothing(t, r, e)
}

func TestText(t *testing.T) {
	wantText(t, "\x03abcd", 3, "abc", 1)
	wantText(t, "\x03abc", greatest, "abc", 0)
	wantText(t, "\x02\xff\x00", 2, "\xff\x00", 0)
	for _, most := range []int{9, 1, 0, -1, math.MinInt32, lowest} {
		wantText(t, "\x00", most, "", 0)
		wantText(t, "\x00abc", most, "", 3)
	}
	long := strings.Repeat("xy", 200)
	wantText(t, "\x90\x03"+long+"z", 400, long, 1)
}

func TestTextRefuses(t *testing.T) {
	wantNoText(t, "", 9, api.ErrShort)
	wantNoText(t, "\x80", 9, api.ErrShort)
	wantNoText(t, "\x80", -1, api.ErrShort)
	wantNoText(t, "\x83\x00abc", 9, api.ErrForm)
	wantNoText(t, "\x80\x00", -1, api.ErrForm)
	wantNoText(t, "\xff\xff\xff\xff\xff\xff\xff\xff\xff\x02", greatest, api.ErrForm)
	for _, most := range []int{2, 1, 0, -1, lowest} {
		wantNoText(t, "\x03abc", most, api.ErrBig)
		wantNoText(t, "\x03ab", most, api.ErrBig) // what the number is refused with comes first
	}
	wantNoText(t, "\x01a", -1, api.ErrBig)
	for n := range 3 {
		wantNoText(t, "\x03abc"[:1+n], 3, api.ErrShort)
		wantNoText(t, "\x03abc"[:1+n], greatest, api.ErrShort)
	}
	wantNoText(t, "\xff\xff\xff\xff\xff\xff\xff\xff\x7f", greatest, api.ErrShort)          // as many as an int can tell
	wantNoText(t, "\x80\x80\x80\x80\x80\x80\x80\x80\x80\x01", greatest, api.ErrBig)        // and one more
	wantNoText(t, "\xff\xff\xff\xff\xff\xff\xff\xff\xff\x01abc", greatest, api.ErrBig)     // the greatest number
	wantNoText(t, "\xfe\xff\xff\xff\xff\xff\xff\xff\x7f"+"abc", greatest-1, api.ErrShort)  // at most
	wantNoText(t, "\xff\xff\xff\xff\xff\xff\xff\xff\x7f"+"abc", greatest-1, api.ErrBig)    // and above it
	wantNoText(t, "\xff\xff\xff\xff\xff\xff\xff\xff\x7f"+"abc", math.MaxInt32, api.ErrBig) // far above it
}

func readFloat(b []byte) (uint64, *codec.Reader) {
	r := codec.Read(b)
	return math.Float64bits(r.Float()), r
}

func TestFloat(t *testing.T) {
	list := []uint64{0, 1, 0x8000000000000001, 0x7ff0000000000000, 0xfff0000000000000, 0x7ff8000000000001, 0x7fefffffffffffff, math.Float64bits(-2.5)}
	d := dice(21)
	for range 500 {
		list = append(list, d.throw()&^(1<<52)) // a bit of the exponent is 0: no NaN
	}
	for _, bits := range list {
		got, r := readFloat(codec.PutFixed(nil, bits, 8))
		if got != bits {
			t.Fatalf("Float: %x, not %x", got, bits)
		}
		wantReader(t, r, 0, api.OK)
	}
	r := codec.Read([]byte("\x3f\xf0\x00\x00\x00\x00\x00\x00\x09"))
	if f := r.Float(); f != 1 {
		t.Fatalf("Float: %g", f)
	}
	wantReader(t, r, 1, api.OK)
}

func TestFloatRefuses(t *testing.T) {
	whole := codec.PutFloat(nil, 2.5)
	for n := range whole {
		bits, r := readFloat(whole[:n])
		if bits != 0 {
			t.Fatalf("Float of %d bytes: %x", n, bits)
		}
		wantNothing(t, r, api.ErrShort)
	}
	_, r := readFloat([]byte{128, 0, 0, 0, 0, 0, 0})
	wantNothing(t, r, api.ErrShort) // seven bytes of -0 are too few, no wrong form
	for _, bits := range append(someNaNs()[1:], 1<<63) {
		if bits == 0x7ff8000000000001 {
			continue
		}
		for _, behind := range [][]byte{nil, {1, 2, 3}} {
			got, r := readFloat(append(codec.PutFixed(nil, bits, 8), behind...))
			if got != 0 {
				t.Fatalf("Float of %x: %x", bits, got)
			}
			wantNothing(t, r, api.ErrForm)
		}
	}
}

func TestFixed(t *testing.T) {
	b := []byte{255, 2, 3, 4, 5, 6, 7, 8, 9}
	need := uint64(0)
	for size := range 9 {
		r := codec.Read(b)
		if n := r.Fixed(size); n != need {
			t.Fatalf("Fixed(%d): %x, not %x", size, n, need)
		}
		wantReader(t, r, 9-size, api.OK)
		need = need<<8 | uint64(b[size])
	}
	for _, size := range []int{9, 10, math.MaxInt32, greatest} {
		r := codec.Read(b)
		if n := r.Fixed(size); n != 0xff02030405060708 {
			t.Fatalf("Fixed(%d): %x", size, n)
		}
		wantReader(t, r, 1, api.OK)
	}
	for _, size := range []int{0, -1, math.MinInt32, lowest} {
		for _, left := range [][]byte{b, nil} {
			r := codec.Read(left)
			if n := r.Fixed(size); n != 0 {
				t.Fatalf("Fixed(%d): %x", size, n)
			}
			wantReader(t, r, len(left), api.OK)
		}
	}
}

func TestFixedOfTooFewBytes(t *testing.T) {
	for size := 1; size <= 10; size++ {
		for n := range min(size, 8) {
			r := codec.Read(bytes.Repeat([]byte{9}, n))
			if got := r.Fixed(size); got != 0 {
				t.Fatalf("Fixed(%d) of %d bytes: %x", size, n, got)
			}
			wantNothing(t, r, api.ErrShort)
		}
	}
}

func TestByte(t *testing.T) {
	b := make([]byte, 256)
	for i := range b {
		b[i] = byte(i)
	}
	r := codec.Read(b)
	for i := range b {
		if c := r.Byte(); int(c) != i {
			t.Fatalf("Byte: %d, not %d", c, i)
		}
		wantReader(t, r, 255-i, api.OK)
	}
	if c := r.Byte(); c != 0 {
		t.Fatalf("Byte: %d", c)
	}
	wantNothing(t, r, api.ErrShort)
}
