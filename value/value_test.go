package value_test

import (
	"bytes"
	"math"
	"math/big"
	"slices"
	"strings"
	"testing"

	"tabulary/api"
	"tabulary/codec"
	"tabulary/value"
)

const (
	lowest   = math.MinInt64
	greatest = math.MaxInt64
	huge     = math.MaxFloat64
	tiny     = math.SmallestNonzeroFloat64
	normal   = 0x1p-1022 // the least Float with all its digits
	nanBits  = 0x7ff8000000000001
)

var (
	infinity = math.Inf(1)
	minus0   = math.Copysign(0, -1)
)

func null() api.Value { return api.Value{} }

func truth(n int64) api.Value { return api.Value{Kind: api.Bool, Int: n} }

func whole(n int64) api.Value { return api.Value{Kind: api.Int, Int: n} }

func float(f float64) api.Value { return api.Value{Kind: api.Float, Float: f} }

func text(s string) api.Value { return api.Value{Kind: api.Text, Text: s} }

// nans are some of them: the one that is put, quiet and signalling ones, of either sign.
func nans() []float64 {
	list := []float64{math.NaN(), -math.NaN()}
	for _, bits := range []uint64{nanBits, nanBits - 1, nanBits + 1, 1<<64 - 1, 0x7ff0000000000001, 0xfff0000000000001, 0xfff8000000000000, 0x7fffffffffffffff} {
		list = append(list, math.Float64frombits(bits))
	}
	return list
}

// levels are values that rise from list to list, and that are the same within each.
func levels() [][]api.Value {
	ints := []int64{lowest, lowest + 1, -1 << 32, -256, -3, -1, 0, 1, 2, 63, 64, 300, 1 << 32, 1 << 62, greatest - 1, greatest}
	below := []float64{-infinity, -huge, -1e16, -3, -1, -0.1, -normal, -tiny}
	above := []float64{tiny, normal, 0.1, 0.2, 1, math.Nextafter(1, 2), 3, 1 << 53, 1<<53 + 2, 1e300, huge, infinity}
	texts := []string{"", "\x00", "\x00\x00", "A", "B", "a", "a\x00", "aA", "aa", "ab", "b", strings.Repeat("b", 63), strings.Repeat("b", 64), "\x80", "é", "\xff"}
	list := [][]api.Value{{null()}, {truth(0)}, {truth(1)}}
	for _, n := range ints {
		list = append(list, []api.Value{whole(n)})
	}
	for _, f := range below {
		list = append(list, []api.Value{float(f)})
	}
	list = append(list, []api.Value{float(0), float(minus0)})
	for _, f := range above {
		list = append(list, []api.Value{float(f)})
	}
	var same []api.Value
	for _, f := range nans() {
		same = append(same, float(f))
	}
	list = append(list, same)
	for _, s := range texts {
		list = append(list, []api.Value{text(s)})
	}
	return list
}

// rights are values that may be, rising.
func rights() []api.Value { return slices.Concat(levels()...) }

// wrongs are values that may not be.
func wrongs() []api.Value {
	list := []api.Value{
		{Kind: -1}, {Kind: 5}, {Kind: 9}, {Kind: 255}, {Kind: 256}, {Kind: 257}, {Kind: lowest}, {Kind: greatest},
		{Kind: 5, Int: 1}, {Kind: -1, Float: 1}, {Kind: 6, Text: "a"},
		truth(2), truth(-1), truth(256), truth(257), truth(lowest), truth(greatest),
		text(strings.Repeat("a", 65)), text(strings.Repeat("a", 1000)),
	}
	for _, v := range []api.Value{null(), truth(0), truth(1), whole(0), whole(7), text(""), text("a")} {
		for _, f := range []float64{1, -1, tiny, infinity, math.NaN()} {
			w := v
			w.Float = f
			list = append(list, w)
		}
	}
	for _, v := range []api.Value{null(), float(0), float(1), float(math.NaN()), text(""), text("a")} {
		for _, n := range []int64{1, -1, lowest} {
			w := v
			w.Int = n
			list = append(list, w)
		}
	}
	for _, v := range []api.Value{null(), truth(0), truth(1), whole(0), whole(7), float(0), float(1), float(math.NaN())} {
		for _, s := range []string{"a", "\x00", strings.Repeat("a", 65)} {
			w := v
			w.Text = s
			list = append(list, w)
		}
	}
	return list
}

// all are values that may be, and values that may not.
func all() []api.Value { return append(rights(), wrongs()...) }

// alike tells whether two values are so bit by bit.
func alike(a, b api.Value) bool {
	return a.Kind == b.Kind && a.Int == b.Int && math.Float64bits(a.Float) == math.Float64bits(b.Float) && a.Text == b.Text
}

func wantValue(t *testing.T, got, need api.Value, what string, with ...any) {
	t.Helper()
	if !alike(got, need) {
		t.Fatalf(what+": %#v, not %#v", append(with, got, need)...)
	}
}

// A call is Calc, Test or Both.
type call func(op int, a, b api.Value) (api.Value, api.Errno)

func wantCall(t *testing.T, f call, op int, a, b, need api.Value, e api.Errno) {
	t.Helper()
	got, gotE := f(op, a, b)
	if !alike(got, need) || gotE != e {
		t.Fatalf("%d of %#v and %#v: %#v, error %d; not %#v, error %d", op, a, b, got, gotE, need, e)
	}
}

// wantTypes asks for ErrType with each value that is refused, on either side, whatever the other one is.
func wantTypes(t *testing.T, f call, ops []int, refused []api.Value) {
	t.Helper()
	for _, v := range refused {
		for _, w := range all() {
			for _, op := range ops {
				wantCall(t, f, op, v, w, null(), api.ErrType)
				wantCall(t, f, op, w, v, null(), api.ErrType)
			}
		}
	}
}

// wantInvalid asks for ErrInvalid from each op that is not from first to last, ahead of all other errors.
func wantInvalid(t *testing.T, f call, first, last int) {
	t.Helper()
	ops := []int{lowest, lowest + first, -first, 255, 256 + first, 1<<32 + first, greatest}
	for op := -20; op < 40; op++ {
		ops = append(ops, op)
	}
	some := []api.Value{null(), truth(1), whole(1), float(1), text("a"), {Kind: 9}, truth(2)}
	for _, op := range ops {
		for _, a := range some {
			for _, b := range some {
				if op < first || op > last {
					wantCall(t, f, op, a, b, null(), api.ErrInvalid)
				} else if _, e := f(op, a, b); e == api.ErrInvalid {
					t.Fatalf("%d of %#v and %#v: ErrInvalid", op, a, b)
				}
			}
		}
	}
}

// ofKinds are those values of a list that are of some kinds.
func ofKinds(list []api.Value, kinds ...int) []api.Value {
	var some []api.Value
	for _, v := range list {
		if slices.Contains(kinds, v.Kind) {
			some = append(some, v)
		}
	}
	return some
}

// P4.1

func TestRight(t *testing.T) {
	for _, v := range rights() {
		if !value.Right(v) {
			t.Errorf("%#v may be", v)
		}
	}
	for _, v := range wrongs() {
		if value.Right(v) {
			t.Errorf("%#v may not be", v)
		}
	}
}

func TestPlainFloats(t *testing.T) {
	for _, f := range nans() {
		wantValue(t, value.Plain(float(f)), float(math.Float64frombits(nanBits)), "Plain of the NaN %x", math.Float64bits(f))
	}
	wantValue(t, value.Plain(float(minus0)), float(0), "Plain of -0")
	wantValue(t, value.Plain(float(0)), float(0), "Plain of 0")
	for _, f := range []float64{-tiny, tiny, -1, 1, infinity, -infinity, huge} {
		wantValue(t, value.Plain(float(f)), float(f), "Plain of %v", f)
	}
}

func TestPlainNaNIsTheOneThatCodecPuts(t *testing.T) {
	for _, f := range nans() {
		put := codec.Read(codec.PutFloat(nil, f)).Float()
		wantValue(t, value.Plain(float(f)), float(put), "Plain of the NaN %x", math.Float64bits(f))
	}
}

func TestPlainOfOthers(t *testing.T) {
	for _, v := range ofKinds(rights(), api.Null, api.Bool, api.Int, api.Text) {
		wantValue(t, value.Plain(v), v, "Plain of %#v", v)
	}
	for _, v := range wrongs() {
		wantValue(t, value.Plain(v), null(), "Plain of %#v", v)
	}
}

// A -0 is zero: a kind that has no Float may have it, and it is not told again.
func TestMinusZeroWhereThereIsNoFloat(t *testing.T) {
	for _, v := range []api.Value{null(), truth(1), whole(7), text("a")} {
		w := v
		w.Float = minus0
		if !value.Right(w) || !value.Same(v, w) {
			t.Errorf("%#v may be, and is the same as %#v", w, v)
		}
		wantValue(t, value.Plain(w), v, "Plain of %#v", w)
	}
}

// P4.2

func wantCmp(t *testing.T, a, b api.Value, need int) {
	t.Helper()
	if got := value.Cmp(a, b); got != need {
		t.Errorf("Cmp of %#v and %#v: %d, not %d", a, b, got, need)
	}
	if got := value.Same(a, b); got != (need == 0) {
		t.Errorf("Same of %#v and %#v: %v", a, b, got)
	}
}

func TestCmp(t *testing.T) {
	for i, low := range levels() {
		for j, high := range levels() {
			for _, a := range low {
				for _, b := range high {
					need := 0
					if i < j {
						need = -1
					} else if i > j {
						need = 1
					}
					wantCmp(t, a, b, need)
				}
			}
		}
	}
}

func TestCmpExamples(t *testing.T) {
	wantCmp(t, float(minus0), float(0), 0)
	wantCmp(t, float(infinity), float(math.NaN()), -1)
	wantCmp(t, float(math.NaN()), float(math.NaN()), 0)
	wantCmp(t, float(math.NaN()), text(""), -1)
	wantCmp(t, whole(9), float(-1), -1)
	wantCmp(t, truth(1), whole(lowest), -1)
}

func TestCmpOfWhatMayNotBe(t *testing.T) {
	for _, v := range wrongs() {
		for _, w := range wrongs() {
			wantCmp(t, v, w, 0)
		}
		for _, w := range rights() {
			need := -1
			if w.Kind == api.Null {
				need = 0
			}
			wantCmp(t, v, w, need)
			wantCmp(t, w, v, -need)
		}
	}
}

// P4.3

func TestTruthAndNumber(t *testing.T) {
	wantValue(t, value.Truth(true), api.Value{Kind: 1, Int: 1}, "Truth of true")
	wantValue(t, value.Truth(false), api.Value{Kind: 1}, "Truth of false")
	for _, n := range []int64{0, 1, -1, 7, lowest, greatest} {
		wantValue(t, value.Number(n), api.Value{Kind: 2, Int: n}, "Number of %d", n)
	}
}

// P4.4

// round is a whole number modulo 2 to the 64, as 64 bits with a sign.
func round(n *big.Int) int64 {
	bits := new(big.Int).And(n, new(big.Int).SetUint64(math.MaxUint64))
	return int64(bits.Uint64())
}

func calcInts(op int, a, b int64) int64 {
	x, y := big.NewInt(a), big.NewInt(b)
	switch op {
	case api.Add:
		return round(x.Add(x, y))
	case api.Sub:
		return round(x.Sub(x, y))
	case api.Mul:
		return round(x.Mul(x, y))
	}
	return round(x.Neg(x))
}

func TestCalcInts(t *testing.T) {
	list := ofKinds(rights(), api.Int)
	d := dice(4)
	for range 200 {
		list = append(list, whole(int64(d.throw())))
	}
	for _, a := range list {
		for _, b := range list {
			for op := api.Add; op <= api.Neg; op++ {
				wantCall(t, value.Calc, op, a, b, whole(calcInts(op, a.Int, b.Int)), api.OK)
			}
		}
	}
}

func TestCalcIntsGoRound(t *testing.T) {
	for _, x := range []struct {
		op         int
		a, b, need int64
	}{
		{api.Add, greatest, 1, lowest}, {api.Add, lowest, -1, greatest}, {api.Add, lowest, lowest, 0}, {api.Add, greatest, greatest, -2},
		{api.Sub, lowest, 1, greatest}, {api.Sub, greatest, -1, lowest}, {api.Sub, 0, lowest, lowest}, {api.Sub, 3, 5, -2},
		{api.Mul, lowest, -1, lowest}, {api.Mul, greatest, 2, -2}, {api.Mul, 1 << 62, 4, 0}, {api.Mul, lowest, lowest, 0}, {api.Mul, -3, 5, -15},
		{api.Neg, lowest, 0, lowest}, {api.Neg, greatest, 0, -greatest}, {api.Neg, 5, 3, -5},
	} {
		wantCall(t, value.Calc, x.op, whole(x.a), whole(x.b), whole(x.need), api.OK)
	}
}

// exact is what two floats that are numbers come to, rounded once, from digits enough for each of them.
func exact(op int, a, b float64) float64 {
	x := new(big.Float).SetPrec(5000).SetFloat64(a)
	y := new(big.Float).SetPrec(5000).SetFloat64(b)
	switch op {
	case api.Add:
		x.Add(x, y)
	case api.Sub:
		x.Sub(x, y)
	case api.Mul:
		x.Mul(x, y)
	case api.Neg:
		x.Neg(x)
	}
	f, _ := x.Float64()
	if f == 0 {
		return 0
	}
	return f
}

func TestCalcFloats(t *testing.T) {
	var list []float64
	for _, v := range ofKinds(rights(), api.Float) {
		if v.Float-v.Float == 0 {
			list = append(list, v.Float)
		}
	}
	d := dice(5)
	for len(list) < 150 {
		f := math.Float64frombits(d.throw())
		if f-f == 0 {
			list = append(list, f, math.Ldexp(float64(d.throw()), d.below(130)-65))
		}
	}
	for _, a := range list {
		for _, b := range list {
			for op := api.Add; op <= api.Neg; op++ {
				wantCall(t, value.Calc, op, float(a), float(b), float(exact(op, a, b)), api.OK)
			}
		}
	}
}

func TestCalcFloatsAtTheEdges(t *testing.T) {
	nan := math.Float64frombits(nanBits)
	for _, x := range []struct {
		op         int
		a, b, need float64
	}{
		{api.Add, 1 << 53, 1, 1 << 53}, {api.Add, 1<<53 + 2, 1, 1<<53 + 4}, {api.Add, 0.1, 0.2, 0.30000000000000004},
		{api.Add, huge, huge, infinity}, {api.Sub, -huge, huge, -infinity}, {api.Mul, huge, 2, infinity}, {api.Mul, -huge, 2, -infinity},
		{api.Add, huge, 0x1p969, huge}, {api.Add, huge, 0x1p970, infinity},
		{api.Mul, tiny, 0.5, 0}, {api.Mul, tiny, 0.75, tiny}, {api.Mul, tiny, 1.5, 2 * tiny}, {api.Mul, tiny, 2.5, 2 * tiny}, {api.Mul, -tiny, 0.5, 0},
		{api.Sub, normal, tiny, normal - tiny}, {api.Mul, 0.1, 10, 1},
		{api.Add, infinity, infinity, infinity}, {api.Add, infinity, -infinity, nan}, {api.Sub, infinity, infinity, nan}, {api.Sub, 1, infinity, -infinity},
		{api.Mul, infinity, 0, nan}, {api.Mul, minus0, infinity, nan}, {api.Mul, infinity, -2, -infinity}, {api.Mul, -infinity, -infinity, infinity},
		{api.Neg, infinity, 0, -infinity}, {api.Neg, -infinity, 0, infinity},
		{api.Sub, 1, 1, 0}, {api.Mul, -1, 0, 0}, {api.Mul, 1, minus0, 0}, {api.Add, minus0, minus0, 0}, {api.Sub, minus0, 0, 0}, {api.Neg, 0, 0, 0}, {api.Neg, minus0, 0, 0},
	} {
		wantCall(t, value.Calc, x.op, float(x.a), float(x.b), float(x.need), api.OK)
	}
	for _, f := range nans() {
		for _, v := range ofKinds(rights(), api.Float) {
			for op := api.Add; op <= api.Mul; op++ {
				wantCall(t, value.Calc, op, float(f), v, float(nan), api.OK)
				wantCall(t, value.Calc, op, v, float(f), float(nan), api.OK)
			}
			wantCall(t, value.Calc, api.Neg, float(f), v, float(nan), api.OK)
		}
	}
}

func TestCalcNull(t *testing.T) {
	for _, v := range ofKinds(rights(), api.Null, api.Int, api.Float) {
		for op := api.Add; op <= api.Mul; op++ {
			wantCall(t, value.Calc, op, null(), v, null(), api.OK)
			wantCall(t, value.Calc, op, v, null(), null(), api.OK)
		}
	}
}

func TestCalcTypes(t *testing.T) {
	ops := []int{api.Add, api.Sub, api.Mul}
	wantTypes(t, value.Calc, ops, append(wrongs(), ofKinds(rights(), api.Bool, api.Text)...))
	for _, a := range ofKinds(rights(), api.Int) {
		for _, b := range ofKinds(rights(), api.Float) {
			for _, op := range ops {
				wantCall(t, value.Calc, op, a, b, null(), api.ErrType)
				wantCall(t, value.Calc, op, b, a, null(), api.ErrType)
			}
		}
	}
}

func TestNegCountsAlone(t *testing.T) {
	for _, b := range all() {
		wantCall(t, value.Calc, api.Neg, null(), b, null(), api.OK)
		wantCall(t, value.Calc, api.Neg, whole(7), b, whole(-7), api.OK)
		wantCall(t, value.Calc, api.Neg, float(0.5), b, float(-0.5), api.OK)
		for _, a := range append(wrongs(), ofKinds(rights(), api.Bool, api.Text)...) {
			wantCall(t, value.Calc, api.Neg, a, b, null(), api.ErrType)
		}
	}
}

func TestCalcInvalid(t *testing.T) { wantInvalid(t, value.Calc, 3, 6) }

// P4.5

func TestTest(t *testing.T) {
	for i, low := range levels() {
		for j, high := range levels() {
			for _, a := range low {
				for _, b := range high {
					wantTests(t, a, b, i, j)
				}
			}
		}
	}
}

// wantTests tries the three signs on two values of levels i and j.
func wantTests(t *testing.T, a, b api.Value, i, j int) {
	t.Helper()
	signs := []struct {
		op    int
		holds bool
	}{{7, i == j}, {8, i < j}, {9, i <= j}}
	for _, x := range signs {
		switch {
		case a.Kind == api.Null || b.Kind == api.Null:
			wantCall(t, value.Test, x.op, a, b, null(), api.OK)
		case a.Kind != b.Kind:
			wantCall(t, value.Test, x.op, a, b, null(), api.ErrType)
		case x.holds:
			wantCall(t, value.Test, x.op, a, b, truth(1), api.OK)
		default:
			wantCall(t, value.Test, x.op, a, b, truth(0), api.OK)
		}
	}
}

func TestTestTypes(t *testing.T) { wantTypes(t, value.Test, []int{api.Eq, api.Lt, api.Le}, wrongs()) }

func TestTestInvalid(t *testing.T) { wantInvalid(t, value.Test, 7, 9) }

// P4.6

func TestBoth(t *testing.T) {
	no, yes, none := truth(0), truth(1), null()
	for _, x := range []struct{ a, b, and, or, not api.Value }{
		{no, no, no, no, yes}, {no, yes, no, yes, yes}, {no, none, no, none, yes},
		{yes, no, no, yes, no}, {yes, yes, yes, yes, no}, {yes, none, none, yes, no},
		{none, no, no, none, none}, {none, yes, none, yes, none}, {none, none, none, none, none},
	} {
		wantCall(t, value.Both, 10, x.a, x.b, x.and, api.OK)
		wantCall(t, value.Both, 11, x.a, x.b, x.or, api.OK)
		wantCall(t, value.Both, 12, x.a, x.b, x.not, api.OK)
	}
}

func TestBothTypes(t *testing.T) {
	refused := append(wrongs(), ofKinds(rights(), api.Int, api.Float, api.Text)...)
	wantTypes(t, value.Both, []int{api.And, api.Or}, refused)
	for _, b := range all() {
		for _, a := range refused {
			wantCall(t, value.Both, api.Not, a, b, null(), api.ErrType)
		}
	}
}

func TestNotCountsAlone(t *testing.T) {
	for _, b := range all() {
		wantCall(t, value.Both, api.Not, null(), b, null(), api.OK)
		wantCall(t, value.Both, api.Not, truth(0), b, truth(1), api.OK)
		wantCall(t, value.Both, api.Not, truth(1), b, truth(0), api.OK)
	}
}

func TestBothInvalid(t *testing.T) { wantInvalid(t, value.Both, 10, 12) }

// What is handed in with a -0 where its kind has no Float is not told again with it.
func TestAnswersHaveNoMinusZero(t *testing.T) {
	nothing := api.Value{Float: minus0}
	yes := api.Value{Kind: api.Bool, Int: 1, Float: minus0}
	for op := api.Add; op <= api.Neg; op++ {
		wantCall(t, value.Calc, op, nothing, nothing, null(), api.OK)
	}
	for op := api.Eq; op <= api.Le; op++ {
		wantCall(t, value.Test, op, nothing, yes, null(), api.OK)
	}
	for op := api.And; op <= api.Or; op++ {
		wantCall(t, value.Both, op, nothing, nothing, null(), api.OK)
		wantCall(t, value.Both, op, yes, yes, truth(1), api.OK)
	}
	wantCall(t, value.Both, api.Not, nothing, yes, null(), api.OK)
}

// P4.7

func wantBytes(t *testing.T, what string, got, need []byte) {
	t.Helper()
	if !bytes.Equal(got, need) {
		t.Fatalf("%s: %v, not %v", what, got, need)
	}
}

// forms are values with their bytes.
func forms() []struct {
	v   api.Value
	put string
} {
	long := strings.Repeat("x", 64)
	return []struct {
		v   api.Value
		put string
	}{
		{null(), "\x00"}, {truth(0), "\x01\x00"}, {truth(1), "\x01\x01"},
		{whole(0), "\x02\x00"}, {whole(-3), "\x02\x05"}, {whole(150), "\x02\xac\x02"},
		{whole(greatest), "\x02\xfe\xff\xff\xff\xff\xff\xff\xff\xff\x01"}, {whole(lowest), "\x02\xff\xff\xff\xff\xff\xff\xff\xff\xff\x01"},
		{float(0), "\x03\x00\x00\x00\x00\x00\x00\x00\x00"}, {float(1), "\x03\x3f\xf0\x00\x00\x00\x00\x00\x00"}, {float(-2), "\x03\xc0\x00\x00\x00\x00\x00\x00\x00"},
		{float(infinity), "\x03\x7f\xf0\x00\x00\x00\x00\x00\x00"}, {float(math.Float64frombits(nanBits)), "\x03\x7f\xf8\x00\x00\x00\x00\x00\x01"},
		{text(""), "\x04\x00"}, {text("ab"), "\x04\x02ab"}, {text("\x00\xff"), "\x04\x02\x00\xff"}, {text(long), "\x04\x40" + long},
	}
}

func TestPut(t *testing.T) {
	for _, x := range forms() {
		wantBytes(t, "Put", value.Put(nil, x.v), []byte(x.put))
		wantBytes(t, "Put behind none", value.Put([]byte{}, x.v), []byte(x.put))
		wantBytes(t, "Put behind some", value.Put([]byte("ab"), x.v), []byte("ab"+x.put))
	}
	for _, f := range nans() {
		wantBytes(t, "Put of a NaN", value.Put(nil, float(f)), []byte("\x03\x7f\xf8\x00\x00\x00\x00\x00\x01"))
	}
	wantBytes(t, "Put of -0", value.Put(nil, float(minus0)), []byte("\x03\x00\x00\x00\x00\x00\x00\x00\x00"))
	for _, v := range wrongs() {
		wantBytes(t, "Put of what may not be", value.Put([]byte("ab"), v), []byte("ab\x00"))
	}
}

// Put leaves what it is handed as it is, spare room too, and tells memory of its own.
func TestPutMemory(t *testing.T) {
	for _, v := range all() {
		room := []byte("abcdefghijklmnopqrstuvwxyz")
		first := value.Put(room[:2], v)
		second := value.Put(room[:2], v)
		wantBytes(t, "what was handed in", room, []byte("abcdefghijklmnopqrstuvwxyz"))
		for i := range first[:cap(first)] {
			first[:cap(first)][i] ^= 255
		}
		wantBytes(t, "what was handed in", room, []byte("abcdefghijklmnopqrstuvwxyz"))
		wantBytes(t, "what was told next", second, value.Put([]byte("ab"), v))
	}
}

// wantTake takes a value, and asks what is left of the bytes, and what the Reader refused.
func wantTake(t *testing.T, r *codec.Reader, need api.Value, e api.Errno, left int, refused api.Errno) {
	t.Helper()
	got, gotE := value.Take(r)
	if !alike(got, need) || gotE != e {
		t.Fatalf("Take: %#v, error %d; not %#v, error %d", got, gotE, need, e)
	}
	if r.Left() != left || r.Err() != refused {
		t.Fatalf("behind Take: Left %d, Err %d; not %d, %d", r.Left(), r.Err(), left, refused)
	}
}

func TestTake(t *testing.T) {
	for _, x := range forms() {
		wantTake(t, codec.Read([]byte(x.put)), x.v, api.OK, 0, api.OK)
		wantTake(t, codec.Read([]byte(x.put+"xyz")), x.v, api.OK, 3, api.OK)
	}
}

func TestTakeShort(t *testing.T) {
	for _, x := range forms() {
		for n := range len(x.put) {
			wantTake(t, codec.Read([]byte(x.put[:n])), null(), api.ErrShort, 0, api.ErrShort)
		}
	}
}

func TestTakeWhatTheReaderRefuses(t *testing.T) {
	long := strings.Repeat("x", 300)
	for _, x := range []struct {
		put string
		e   api.Errno
	}{
		{"\x02\x80\x00", api.ErrForm}, {"\x02\xff\xff\xff\xff\xff\xff\xff\xff\xff\x02", api.ErrForm},
		{"\x03\x80\x00\x00\x00\x00\x00\x00\x00", api.ErrForm}, {"\x03\x7f\xf8\x00\x00\x00\x00\x00\x00", api.ErrForm}, {"\x03\xff\xf8\x00\x00\x00\x00\x00\x01", api.ErrForm},
		{"\x04\x41" + long, api.ErrBig}, {"\x04\x41", api.ErrBig}, {"\x04\x81\x01" + long, api.ErrBig}, {"\x04\x82\x00ab", api.ErrForm},
	} {
		wantTake(t, codec.Read([]byte(x.put)), null(), x.e, 0, x.e)
		wantTake(t, codec.Read([]byte(x.put+"xyz")), null(), x.e, 0, x.e)
	}
}

// A Kind that is none, and a Bool of another number, are refused by Take alone: the Reader reads on behind them.
func TestTakeOtherForms(t *testing.T) {
	for kind := 5; kind < 256; kind++ {
		wantTake(t, codec.Read([]byte{byte(kind)}), null(), api.ErrForm, 0, api.OK)
		wantTake(t, codec.Read([]byte{byte(kind), 1, 1}), null(), api.ErrForm, 2, api.OK)
	}
	for n := 2; n < 256; n++ {
		wantTake(t, codec.Read([]byte{1, byte(n)}), null(), api.ErrForm, 0, api.OK)
		r := codec.Read([]byte{1, byte(n), 4, 1, 'a'})
		wantTake(t, r, null(), api.ErrForm, 3, api.OK)
		wantTake(t, r, text("a"), api.OK, 0, api.OK)
	}
}

func TestTakeOfNoReader(t *testing.T) {
	wantTake(t, nil, null(), api.ErrNil, 0, api.ErrNil)
	wantTake(t, new(codec.Reader), null(), api.ErrNil, 0, api.ErrNil)
}

func TestTakeBehindARefusal(t *testing.T) {
	r := codec.Read([]byte("\x09\x01\x01"))
	r.Uint(8)
	wantTake(t, r, null(), api.ErrBig, 0, api.ErrBig)
	r = codec.Read([]byte("\x80\x00\x05"))
	r.Int()
	wantTake(t, r, null(), api.ErrForm, 0, api.ErrForm)
	for _, b := range [][]byte{nil, {}} {
		r = codec.Read(b)
		wantTake(t, r, null(), api.ErrShort, 0, api.ErrShort)
		wantTake(t, r, null(), api.ErrShort, 0, api.ErrShort)
	}
}
