package schema_test

import (
	"bytes"
	"slices"
	"testing"

	"tabulary/api"
	"tabulary/codec"
	"tabulary/schema"
	"tabulary/value"
)

// dice throws the same numbers each time.
type dice uint64

func (d *dice) throw() uint64 {
	*d = *d*6364136223846793005 + 1442695040888963407
	return uint64(*d>>32)<<32 ^ uint64(*d>>16)
}

func (d *dice) below(n int) int { return int(d.throw()>>33) % n }

// name is mostly one, and one of few, so that some are there twice.
func (d *dice) name() string {
	if d.below(30) == 0 {
		wrong := names()
		return wrong[d.below(len(wrong))]
	}
	return []string{"a", "b", "c", "d", "e", "aa", "ab", "_", "_9", longest, longest[:19], "z0", "y", "x", "w", "v"}[d.below(16)]
}

// kind is mostly that of a column.
func (d *dice) kind() int {
	if d.below(30) == 0 {
		return kinds()[d.below(len(kinds()))]
	}
	return 1 + d.below(4)
}

func (d *dice) table() api.Table {
	t := table(d.name())
	for range []int{0, 1, 1, 2, 2, 3, 3, 4, 5, 8, 9}[d.below(11)] {
		t.Cols = append(t.Cols, api.Column{Name: d.name(), Kind: d.kind()})
	}
	return t
}

// near is a table, mostly with one part of another one.
func (d *dice) near(t api.Table) api.Table {
	n := deep(t)
	place := d.below(len(n.Cols) + 1)
	switch d.below(5) {
	case 0:
		n.Name = d.name()
	case 1:
		n.Cols = n.Cols[:place]
	case 2:
		n.Cols = append(n.Cols, api.Column{Name: d.name(), Kind: d.kind()})
	case 3:
		if place < len(n.Cols) {
			n.Cols[place] = api.Column{Name: d.name(), Kind: n.Cols[place].Kind}
		}
	}
	return n
}

// row is one for a table that mostly fits it.
func (d *dice) row(t api.Table) []api.Value {
	var r []api.Value
	for _, c := range t.Cols {
		kind := c.Kind
		switch d.below(20) {
		case 0:
			kind = d.kind()
		case 1, 2:
			kind = api.Null
		}
		l := ofKind(kind)
		if d.below(30) == 0 {
			l = append(notOfKind(kind), api.Value{Kind: kind})
		}
		r = append(r, l[d.below(len(l))])
	}
	switch d.below(20) {
	case 0:
		return append(r, null())
	case 1:
		return r[:d.below(len(r)+1)]
	}
	return r
}

// isNameByWords counts what the chapter lets a name have.
func isNameByWords(s string) bool {
	count := 0
	for i := 0; i < len(s); i++ {
		if bytes.IndexByte([]byte("abcdefghijklmnopqrstuvwxyz_"), s[i]) >= 0 || i > 0 && bytes.IndexByte([]byte("0123456789"), s[i]) >= 0 {
			count++
		}
	}
	return count == len(s) && count >= 1 && count <= 20
}

// rightByWords goes through the table once for each of the chapter's words.
func rightByWords(t api.Table) api.Errno {
	if !isNameByWords(t.Name) || len(t.Cols) < 1 || len(t.Cols) > 8 {
		return api.ErrInvalid
	}
	for _, c := range t.Cols {
		if !isNameByWords(c.Name) || c.Kind != api.Bool && c.Kind != api.Int && c.Kind != api.Float && c.Kind != api.Text {
			return api.ErrInvalid
		}
	}
	for i, a := range t.Cols {
		for j, b := range t.Cols {
			if i != j && a.Name == b.Name {
				return api.ErrThere
			}
		}
	}
	return api.OK
}

// columnByWords goes from the back to the front: the last that it meets is the first.
func columnByWords(t api.Table, name string) int {
	place := -1
	for i := len(t.Cols) - 1; i >= 0; i-- {
		if t.Cols[i].Name == name {
			place = i
		}
	}
	return place
}

// fitsByWords counts the values that fit.
func fitsByWords(t api.Table, r []api.Value) bool {
	count := 0
	for i := 0; i < len(r) && i < len(t.Cols); i++ {
		if value.Right(r[i]) && (r[i].Kind == api.Null || r[i].Kind == t.Cols[i].Kind) {
			count++
		}
	}
	return count == len(r) && count == len(t.Cols)
}

// putByWords puts part by part.
func putByWords(b []byte, t api.Table) []byte {
	put := codec.PutText(b, t.Name)
	put = codec.PutUint(put, uint64(len(t.Cols)))
	for _, c := range t.Cols {
		put = codec.PutFixed(codec.PutText(put, c.Name), uint64(c.Kind), 1)
	}
	return put
}

// takeByWords asks the Reader behind each part.
func takeByWords(r *codec.Reader) (api.Table, api.Errno) {
	name := r.Text(20)
	if r.Err() != api.OK {
		return api.Table{}, r.Err()
	}
	count := r.Uint(8)
	if r.Err() != api.OK {
		return api.Table{}, r.Err()
	}
	cols := make([]api.Column, count)
	for i := range cols {
		cols[i].Name = r.Text(20)
		if r.Err() != api.OK {
			return api.Table{}, r.Err()
		}
		cols[i].Kind = int(r.Byte())
		if r.Err() != api.OK {
			return api.Table{}, r.Err()
		}
	}
	if e := rightByWords(table(name, cols...)); e != api.OK {
		return api.Table{}, e
	}
	return table(name, cols...), api.OK
}

// P6.1 to P6.3, by the chapter's words

func TestRightByTheChaptersWords(t *testing.T) {
	d, told := dice(6), map[api.Errno]int{}
	for range 20000 {
		one := d.table()
		e := rightByWords(one)
		wantRight(t, one, e)
		told[e]++
		name := d.name()
		wantName(t, name, isNameByWords(name))
		wantColumn(t, one, name, columnByWords(one, name))
	}
	for _, e := range []api.Errno{api.OK, api.ErrInvalid, api.ErrThere} {
		if told[e] < 1000 {
			t.Errorf("%d is told %d times: too few to tell", e, told[e])
		}
	}
}

func TestFitsByTheChaptersWords(t *testing.T) {
	d, fits := dice(66), 0
	for range 20000 {
		one := d.table()
		r := d.row(one)
		need := fitsByWords(one, r)
		wantFits(t, one, need, r...)
		if need {
			fits++
		}
	}
	if fits < 2000 || fits > 18000 {
		t.Errorf("%d of 20000 fit: the others are not asked", fits)
	}
}

func TestSameByTheChaptersWords(t *testing.T) {
	d, same := dice(666), 0
	for range 20000 {
		a := d.table()
		b := d.near(a)
		wantSame(t, a, b, alike(a, b))
		if alike(a, b) {
			same++
		}
	}
	if same < 2000 || same > 18000 {
		t.Errorf("%d of 20000 are the same: the others are not asked", same)
	}
}

func TestPutByTheChaptersWords(t *testing.T) {
	d := dice(6666)
	for range 5000 {
		one, ahead := d.table(), make([]byte, d.below(3))
		if got := schema.Put(ahead, one); !bytes.Equal(got, putByWords(ahead, one)) {
			t.Fatalf("%v is put as %v", one, got)
		}
	}
}

// broken are a table's bytes, some of them others, or gone.
func (d *dice) broken(t api.Table) []byte {
	b := putByWords(nil, t)
	for range d.below(3) {
		place := d.below(len(b))
		b[place] = []byte{0, 1, 2, 3, 4, 5, 8, 9, 20, 21, 128, 129, 'a', 'A', byte(d.throw())}[d.below(15)]
	}
	switch place := d.below(len(b)); d.below(8) {
	case 0, 1:
		b = b[:place]
	case 2:
		b[place] |= 128 // a number in a longer form, if one stands there
		b = slices.Insert(b, place+1, 0)
	}
	return b
}

func TestTakeByTheChaptersWords(t *testing.T) {
	d, told := dice(66666), map[api.Errno]int{}
	for range 50000 {
		b := d.broken(d.table())
		plain, reader := codec.Read(b), codec.Read(b)
		need, e := takeByWords(plain)
		wantTake(t, reader, need, e)
		if reader.Left() != plain.Left() || reader.Err() != plain.Err() {
			t.Fatalf("behind %v: Left %d, Err %d; not %d, %d", b, reader.Left(), reader.Err(), plain.Left(), plain.Err())
		}
		told[e]++
	}
	for _, e := range []api.Errno{api.OK, api.ErrInvalid, api.ErrThere, api.ErrShort, api.ErrForm, api.ErrBig} {
		if told[e] < 100 {
			t.Errorf("%d is told %d times: too few to tell", e, told[e])
		}
	}
}

// P6.4

func TestWhatIsPutIsTaken(t *testing.T) {
	d, l := dice(7), rights()
	for len(l) < 5000 {
		if one := d.table(); schema.Right(one) == api.OK {
			l = append(l, one)
		}
	}
	for _, one := range l {
		ahead := make([]byte, d.below(4))
		put := schema.Put(ahead, one)
		if !bytes.HasPrefix(put, ahead) {
			t.Fatalf("%v does not stand behind %v", put, ahead)
		}
		reader := codec.Read(append(put, 77))
		for range ahead {
			reader.Byte()
		}
		got, e := schema.Take(reader)
		if e != api.OK || !alike(got, one) || !schema.Same(got, one) || reader.Left() != 1 {
			t.Fatalf("%v is taken as %v, error %d, with %d bytes left", one, got, e, reader.Left())
		}
	}
}

func TestWhatIsTakenAndPutAgainIsTheSameBytes(t *testing.T) {
	d, taken := dice(77), 0
	for range 50000 {
		b := d.broken(d.table())
		reader := codec.Read(b)
		got, e := schema.Take(reader)
		if e != api.OK {
			wantTable(t, got, api.Table{})
			continue
		}
		taken++
		if read := b[:len(b)-reader.Left()]; !bytes.Equal(schema.Put(nil, got), read) || schema.Right(got) != api.OK {
			t.Fatalf("%v is taken as %v", read, got)
		}
	}
	if taken < 5000 {
		t.Errorf("%d are taken: too few to tell", taken)
	}
}

// Bytes of any kind end in a table or in an error, and in nothing beside it.
func TestTakeOfAnyBytes(t *testing.T) {
	d := dice(777)
	for range 100000 {
		b := make([]byte, d.below(12))
		for i := range b {
			b[i] = []byte{0, 1, 1, 2, 'a', 'b', 128, byte(d.throw())}[d.below(8)]
		}
		need, e := takeByWords(codec.Read(b))
		wantTake(t, codec.Read(b), need, e)
	}
}
