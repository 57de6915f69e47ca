package value_test

import (
	"bytes"
	"math"
	"slices"
	"testing"

	"tabulary/api"
	"tabulary/codec"
	"tabulary/value"
)

// dice throws the same numbers each time.
type dice uint64

func (d *dice) throw() uint64 {
	*d = *d*6364136223846793005 + 1442695040888963407
	return uint64(*d>>32)<<32 ^ uint64(*d>>16)
}

func (d *dice) below(n int) int { return int(d.throw()>>33) % n }

func (d *dice) text(most int) string {
	b := make([]byte, d.below(most+1))
	for i := range b {
		b[i] = "ab\x00\xff"[d.below(4)]
	}
	return string(b)
}

// value is one that may be, of few numbers or of many.
func (d *dice) value() api.Value {
	switch d.below(7) {
	case 0:
		return null()
	case 1:
		return truth(int64(d.below(2)))
	case 2:
		return whole(int64(d.below(5)) - 2)
	case 3:
		return whole(int64(d.throw()))
	case 4:
		return float(float64(d.below(5)-2) / 2)
	case 5:
		return float(math.Float64frombits(d.throw()))
	}
	return text(d.text([]int{3, 64}[d.below(2)]))
}

// many are values of all sorts: those with a name, and others.
func many() []api.Value {
	list := all()
	d := dice(48)
	for range 60 {
		list = append(list, d.value())
	}
	return list
}

// P4.8

func TestCmpIsAnOrder(t *testing.T) {
	list := many()
	for _, a := range list {
		for _, b := range list {
			if value.Cmp(a, b) != -value.Cmp(b, a) {
				t.Fatalf("Cmp of %#v and %#v is not turned", a, b)
			}
		}
	}
	// Each value is no less than all those ahead of it, however they stood: so of three it leads on.
	rising := slices.Clone(list)
	slices.SortFunc(rising, value.Cmp)
	for i, b := range rising {
		for _, a := range rising[:i] {
			if value.Cmp(a, b) > 0 {
				t.Fatalf("%#v stands ahead of %#v", a, b)
			}
		}
	}
	few := rising[:0:0]
	for i := 0; i < len(rising); i += 4 {
		few = append(few, rising[i])
	}
	for _, a := range few {
		for _, b := range few {
			for _, c := range few {
				if value.Cmp(a, b) <= 0 && value.Cmp(b, c) <= 0 && value.Cmp(a, c) > 0 {
					t.Fatalf("Cmp does not lead on: %#v, %#v, %#v", a, b, c)
				}
			}
		}
	}
}

func TestTheSameIsPutAsTheSameBytes(t *testing.T) {
	for _, a := range many() {
		for _, b := range many() {
			if value.Same(a, b) != bytes.Equal(value.Put(nil, a), value.Put(nil, b)) {
				t.Fatalf("%#v and %#v: Same %v, and put as %v and %v", a, b, value.Same(a, b), value.Put(nil, a), value.Put(nil, b))
			}
		}
	}
}

func TestWhatIsPutIsTaken(t *testing.T) {
	var b []byte
	for _, v := range many() {
		b = value.Put(b, v)
	}
	r := codec.Read(b)
	for _, v := range many() {
		got, e := value.Take(r)
		if e != api.OK {
			t.Fatalf("%#v is not taken: %d", v, e)
		}
		wantValue(t, got, value.Plain(v), "taken")
	}
	if r.End() != api.OK {
		t.Fatal("something is left")
	}
}

// Whatever the bytes are: a value that is taken may be, is Plain, and is put as what was read.
func TestTakeOfAnyBytes(t *testing.T) {
	d := dice(7)
	for range 20000 {
		b := make([]byte, d.below(12))
		for i := range b {
			b[i] = byte(d.throw()>>40) >> d.below(8)
		}
		r := codec.Read(b)
		v, e := value.Take(r)
		if e != api.OK {
			wantValue(t, v, null(), "beside a refusal")
			continue
		}
		if !value.Right(v) {
			t.Fatalf("%#v may not be", v)
		}
		wantValue(t, v, value.Plain(v), "taken")
		wantBytes(t, "put again", value.Put(nil, v), b[:len(b)-r.Left()])
	}
}

func TestTestAgreesWithCmp(t *testing.T) {
	for _, a := range many() {
		for _, b := range many() {
			if !value.Right(a) || !value.Right(b) || a.Kind != b.Kind || a.Kind == api.Null {
				continue
			}
			order := value.Cmp(a, b)
			wantCall(t, value.Test, api.Eq, a, b, value.Truth(order == 0), api.OK)
			wantCall(t, value.Test, api.Lt, a, b, value.Truth(order < 0), api.OK)
			wantCall(t, value.Test, api.Le, a, b, value.Truth(order <= 0), api.OK)
		}
	}
}

func TestAddAndMulGoEitherWayAbout(t *testing.T) {
	for _, a := range many() {
		for _, b := range many() {
			for _, op := range []int{api.Add, api.Mul} {
				need, e := value.Calc(op, a, b)
				wantCall(t, value.Calc, op, b, a, need, e)
			}
		}
	}
}

func TestWhatIsReckonedIsPlain(t *testing.T) {
	for _, a := range many() {
		for _, b := range many() {
			for op := api.Add; op <= api.Neg; op++ {
				v, _ := value.Calc(op, a, b)
				wantValue(t, v, value.Plain(v), "%d of %#v and %#v", op, a, b)
			}
		}
	}
}

func TestAndAndOrAreOneAnothers(t *testing.T) {
	not := func(v api.Value) api.Value {
		v, _ = value.Both(api.Not, v, null())
		return v
	}
	for _, a := range ofKinds(rights(), api.Null, api.Bool) {
		for _, b := range ofKinds(rights(), api.Null, api.Bool) {
			and, _ := value.Both(api.And, a, b)
			or, _ := value.Both(api.Or, a, b)
			wantCall(t, value.Both, api.Or, not(a), not(b), not(and), api.OK)
			wantCall(t, value.Both, api.And, not(a), not(b), not(or), api.OK)
		}
	}
}
