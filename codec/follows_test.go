package codec_test

import (
	"math"
	"slices"
	"testing"

	"tabulary/api"
	"tabulary/codec"
)

// P3.5

// A part is something that is put, with how it is read again, and put again.
type part struct {
	put   func(b []byte) []byte
	read  func(r *codec.Reader) bool
	again func(r *codec.Reader, b []byte) []byte
}

func uintPart(n uint64) part {
	return part{
		func(b []byte) []byte { return codec.PutUint(b, n) },
		func(r *codec.Reader) bool { return r.Uint(n) == n },
		func(r *codec.Reader, b []byte) []byte { return codec.PutUint(b, r.Uint(all)) },
	}
}

func intPart(n int64) part {
	return part{
		func(b []byte) []byte { return codec.PutInt(b, n) },
		func(r *codec.Reader) bool { return r.Int() == n },
		func(r *codec.Reader, b []byte) []byte { return codec.PutInt(b, r.Int()) },
	}
}

func textPart(s string) part {
	return part{
		func(b []byte) []byte { return codec.PutText(b, s) },
		func(r *codec.Reader) bool { return r.Text(len(s)) == s },
		func(r *codec.Reader, b []byte) []byte { return codec.PutText(b, r.Text(greatest)) },
	}
}

func floatPart(f float64) part {
	return part{
		func(b []byte) []byte { return codec.PutFloat(b, f) },
		func(r *codec.Reader) bool {
			got := r.Float()
			return math.Float64bits(got) == math.Float64bits(f) || got != got && f != f
		},
		func(r *codec.Reader, b []byte) []byte { return codec.PutFloat(b, r.Float()) },
	}
}

func fixedPart(n uint64, size int) part {
	need := n
	if size < 8 {
		need = n & (1<<(8*max(size, 0)) - 1)
	}
	return part{
		func(b []byte) []byte { return codec.PutFixed(b, n, size) },
		func(r *codec.Reader) bool { return r.Fixed(size) == need },
		func(r *codec.Reader, b []byte) []byte { return codec.PutFixed(b, r.Fixed(size), size) },
	}
}

func bytePart(c byte) part {
	return part{
		func(b []byte) []byte { return codec.PutFixed(b, uint64(c), 1) },
		func(r *codec.Reader) bool { return r.Byte() == c },
		func(r *codec.Reader, b []byte) []byte { return append(slices.Clip(b), r.Byte()) },
	}
}

func (d *dice) part() part {
	switch d.below(6) {
	case 0:
		return uintPart(d.throw() >> d.below(65))
	case 1:
		return intPart(int64(d.throw()) >> d.below(64))
	case 2:
		return textPart(string(d.bytes(d.below(200))))
	case 3:
		return floatPart(d.float())
	case 4:
		return fixedPart(d.throw(), d.below(12)-2)
	}
	return bytePart(byte(d.throw() >> 9))
}

// float is never -0, which is read as 0.
func (d *dice) float() float64 {
	edges := []float64{0, 1, -1, math.NaN(), math.Inf(1), math.Inf(-1), math.MaxFloat64, -math.SmallestNonzeroFloat64}
	if i := d.below(2 * len(edges)); i < len(edges) {
		return edges[i]
	}
	return math.Float64frombits(d.throw() | 1)
}

func TestWhatIsPutIsRead(t *testing.T) {
	d := dice(31)
	for range 3000 {
		ahead, behind := d.bytes(d.below(5)), d.bytes(d.below(5))
		parts := make([]part, d.below(6))
		b := slices.Clone(ahead)
		for i := range parts {
			parts[i] = d.part()
			b = parts[i].put(b)
		}
		b = append(b, behind...)
		r := codec.Read(b)
		for _, c := range ahead {
			if r.Byte() != c {
				t.Fatalf("%v: what is ahead has changed", b)
			}
		}
		for i, p := range parts {
			if !p.read(r) {
				t.Fatalf("%v: part %d is not what was put", b, i)
			}
		}
		wantReader(t, r, len(behind), api.OK)
		for _, c := range behind {
			if r.Byte() != c {
				t.Fatalf("%v: what is behind was not left", b)
			}
		}
		wantReader(t, r, 0, api.OK)
	}
}

func TestEachNumberIsRead(t *testing.T) {
	for _, n := range someUints() {
		for _, p := range []part{uintPart(n), intPart(int64(n)), fixedPart(n, 8), fixedPart(n, 3), floatPart(math.Float64frombits(n &^ (1 << 63)))} {
			b := p.put([]byte{200})
			r := codec.Read(append(b, 128))
			if r.Byte() != 200 || !p.read(r) || r.Left() != 1 {
				t.Fatalf("%d as %v", n, b)
			}
		}
	}
}

// likelyBytes are such that numbers are often well formed, and often nearly so.
func (d *dice) likelyBytes(n int) []byte {
	edges := []byte{0, 1, 2, 127, 128, 129, 255, 0x7f, 0xf8, 0xf0}
	b := d.bytes(n)
	for i := range b {
		if d.below(2) == 0 {
			b[i] = edges[d.below(len(edges))]
		}
	}
	return b
}

func TestWhatIsReadAndPutAgainIsTheSameBytes(t *testing.T) {
	d, whole := dice(32), 0
	for range 20000 {
		b := d.likelyBytes(d.below(14))
		r := codec.Read(b)
		var again []byte
		for r.Err() == api.OK && r.Left() > 0 {
			next := d.part().again(r, again)
			if r.Err() != api.OK {
				break
			}
			again = next
			wantBytes(t, "put again", again, b[:len(b)-r.Left()])
		}
		if r.End() == api.OK {
			whole++
		}
	}
	if whole < 2000 {
		t.Fatalf("only %d were read to their end", whole)
	}
}

func TestOneFormAlone(t *testing.T) {
	seen := map[uint64]int{}
	for first := range 256 {
		for second := range 256 {
			r := codec.Read([]byte{byte(first), byte(second)})
			if n := r.Uint(all); r.End() == api.OK {
				seen[n]++
			}
		}
	}
	if len(seen) != 1<<14-1<<7 {
		t.Fatalf("%d numbers have two bytes", len(seen))
	}
	for n, forms := range seen {
		if forms != 1 || n < 128 {
			t.Fatalf("%d has %d forms", n, forms)
		}
	}
}
