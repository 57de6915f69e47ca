package row_test

import (
	"bytes"
	"math"
	"slices"
	"testing"

	"tabulary/api"
	"tabulary/codec"
	"tabulary/row"
	"tabulary/value"
)

// dice throws the same numbers each time.
type dice uint64

func (d *dice) throw() uint64 {
	*d = *d*6364136223846793005 + 1442695040888963407
	return uint64(*d>>32)<<32 ^ uint64(*d>>16)
}

func (d *dice) below(n int) int { return int(d.throw()>>33) % n }

// value is one of few, so that rows are often the same: some of them may not be.
func (d *dice) value() api.Value {
	switch d.below(8) {
	case 0:
		return null()
	case 1:
		return wrongs()[d.below(len(wrongs()))]
	case 2:
		return nans()[d.below(len(nans()))]
	case 3:
		return []api.Value{float(0), float(minus0), float(infinity)}[d.below(3)]
	case 4:
		return text([]string{"", "a", "b"}[d.below(3)])
	case 5:
		return truth(int64(d.below(2)))
	}
	return whole(int64(d.below(3)))
}

func (d *dice) row(most int) list {
	var r list
	for range d.below(most + 1) {
		r = append(r, d.value())
	}
	return r
}

func (d *dice) rows(most int) rows {
	var l rows
	for range d.below(most + 1) {
		l = append(l, d.row(3))
	}
	return l
}

func (d *dice) order() []api.Key {
	var order []api.Key
	for range d.below(4) {
		order = append(order, api.Key{Out: d.below(5) - 1, Desc: d.below(2) == 0})
	}
	return order
}

// shuffled are the same rows in another order.
func (d *dice) shuffled(l rows) rows {
	s := deep(l)
	for i := range s {
		j := d.below(i + 1)
		s[i], s[j] = s[j], s[i]
	}
	return s
}

// byWords compares as the chapter says it, key by key.
func byWords(order []api.Key, a, b list) int {
	if len(order) == 0 {
		return 0
	}
	var x, y api.Value
	place := order[0].Out
	if place >= 0 && place < len(a) {
		x = a[place]
	}
	if place >= 0 && place < len(b) {
		y = b[place]
	}
	if order[0].Desc {
		x, y = y, x
	}
	return cmpOr(value.Cmp(x, y), byWords(order[1:], a, b))
}

// sortByWords puts each row behind all those that are not greater.
func sortByWords(l rows, order []api.Key) rows {
	var s rows
	for _, r := range l {
		i := len(s)
		for i > 0 && byWords(order, s[i-1], r) > 0 {
			i--
		}
		s = slices.Insert(s, i, r)
	}
	return s
}

// withinByWords takes a row of b away for each one of a.
func withinByWords(a, b rows) bool {
	left := slices.Clone(b)
	for _, r := range a {
		i := slices.IndexFunc(left, func(s list) bool { return row.Cmp(r, s) == 0 })
		if i < 0 {
			return false
		}
		left = slices.Delete(left, i, i+1)
	}
	return true
}

// P5.1 to P5.3, by the chapter's words

func TestByTheChaptersWords(t *testing.T) {
	d := dice(5)
	for range 3000 {
		l, order := d.rows(14), d.order()
		need := sortByWords(l, order)
		wantRows(t, row.Sort(l, order), need)
		if row.Sorted(l, order) != slices.EqualFunc(l, need, alike) {
			t.Fatalf("Sorted of %v by %v", l, order)
		}
		a, b := d.rows(4), d.shuffled(l)
		if d.below(2) == 0 {
			a = b[:d.below(len(b)+1)]
		}
		if row.Within(a, l) != withinByWords(a, l) || row.Within(l, a) != withinByWords(l, a) {
			t.Fatalf("Within of %v and %v", a, l)
		}
		for _, r := range a {
			for _, s := range l {
				wantBy(t, order, r, s, byWords(order, r, s))
			}
		}
	}
}

// P5.5

func TestWhatIsSorted(t *testing.T) {
	d := dice(55)
	for range 2000 {
		l, order := d.rows(40), d.order()
		s := row.Sort(l, order)
		if !row.Bag(l, s) || !row.Bag(s, l) {
			t.Fatalf("%v, sorted by %v, is another bag: %v", l, order, s)
		}
		if !row.Sorted(s, order) {
			t.Fatalf("%v, sorted by %v, is not: %v", l, order, s)
		}
		wantRows(t, row.Sort(s, order), s)
	}
}

func TestBagIsWithinBothWays(t *testing.T) {
	d := dice(555)
	same := 0
	for range 5000 {
		a := d.rows(5)
		b := d.shuffled(a)
		switch d.below(4) {
		case 0:
			b = append(b, d.row(1))
		case 1:
			b = b[:d.below(len(b)+1)]
		case 2:
			b = d.rows(5)
		}
		bag := row.Bag(a, b)
		if bag != row.Bag(b, a) || bag != (row.Within(a, b) && row.Within(b, a)) {
			t.Fatalf("Bag of %v and %v", a, b)
		}
		if bag {
			same++
		}
	}
	if same < 1000 || same > 4000 {
		t.Errorf("%d of 5000 are the same bag: the others are not asked", same)
	}
}

func TestCmpIsAnOrder(t *testing.T) {
	d := dice(5555)
	l := slices.Concat(rising(), rows{nil})
	for range 60 {
		l = append(l, d.row(3))
	}
	s := slices.Clone(l)
	slices.SortFunc(s, row.Cmp)
	for i, b := range s {
		for _, a := range s[:i] {
			if row.Cmp(a, b) > 0 || row.Cmp(a, b) != -row.Cmp(b, a) {
				t.Fatalf("Cmp of %v and %v: %d; turned: %d", a, b, row.Cmp(a, b), row.Cmp(b, a))
			}
		}
	}
}

// plain is a row with each value in its one form.
func plain(r list) list {
	p := slices.Clone(r)
	for i, v := range p {
		p[i] = value.Plain(v)
	}
	return p
}

func TestWhatIsPutIsTaken(t *testing.T) {
	d := dice(55555)
	l := rows{nil, rights(), wrongs(), nans(), times(200, text("a")), times(200, wrongs()[0])}
	for range 1000 {
		l = append(l, d.row(30))
	}
	for _, r := range l {
		ahead := make([]byte, d.below(3))
		put := row.Put(ahead, r)
		if !bytes.HasPrefix(put, ahead) {
			t.Fatalf("%v does not stand behind %v", put, ahead)
		}
		reader := codec.Read(append(put, 77))
		for range ahead {
			reader.Byte()
		}
		wantTake(t, reader, plain(r), api.OK)
		if reader.Left() != 1 {
			t.Fatalf("%d bytes are left of %v", reader.Left(), put)
		}
		if !bytes.Equal(row.Put(nil, plain(r)), row.Put(nil, r)) {
			t.Fatalf("%v is put in two forms", r)
		}
	}
}

func TestWhatIsTakenAndPutAgainIsTheSameBytes(t *testing.T) {
	d := dice(7)
	taken := 0
	for range 200000 {
		b := make([]byte, d.below(12))
		for i := range b {
			b[i] = []byte{0, 1, 2, 3, 4, 5, 128, byte(d.throw())}[d.below(8)]
		}
		reader := codec.Read(b)
		r, e := row.Take(reader)
		if e != api.OK {
			if len(r) != 0 {
				t.Fatalf("of %v: %v beside the error %d", b, r, e)
			}
			continue
		}
		taken++
		if read := b[:len(b)-reader.Left()]; !bytes.Equal(row.Put(nil, r), read) || !row.Right(r) {
			t.Fatalf("%v is taken as %v", read, r)
		}
	}
	if taken < 1000 {
		t.Errorf("%d are taken: too few to tell", taken)
	}
}

func TestLongLists(t *testing.T) {
	var l rows
	d := dice(math.MaxInt32)
	for range 50000 {
		l = append(l, of(int64(d.below(1000)), int64(d.below(1000))))
	}
	s := row.Sort(l, keys(up(1), down(0)))
	if !row.Sorted(s, keys(up(1), down(0))) || !row.Bag(l, s) || !row.Within(s[1:], l) || row.Within(l, s[1:]) {
		t.Error("a long list is not sorted, or is another bag")
	}
}
