package page_test

import (
	"bytes"
	"math"
	"slices"
	"testing"

	"tabulary/api"
	"tabulary/page"
)

// dice throws the same numbers each time.
type dice uint64

func (d *dice) throw() uint64 {
	*d = *d*6364136223846793005 + 1442695040888963407
	return uint64(*d>>32)<<32 ^ uint64(*d>>16)
}

func (d *dice) below(n int) int { return int(d.throw()>>33) % n }

func (d *dice) bytes(n int) []byte {
	b := make([]byte, n)
	for i := range b {
		b[i] = byte(d.throw() >> 40)
	}
	return b
}

func (d *dice) number() int {
	if l := numbers(); d.below(2) == 0 {
		return l[d.below(len(l))]
	}
	return d.below(greatest)
}

func (d *dice) kind() byte { return byte(1 + d.below(255)) }

// cell has no bytes, few, or up to so many.
func (d *dice) cell(most int) []byte {
	switch d.below(4) {
	case 0:
		return nil
	case 1:
		return d.bytes(min(most, 1+d.below(3)))
	case 2:
		return make([]byte, d.below(most+1))
	}
	return d.bytes(d.below(most + 1))
}

// cells have room; often nothing is left of it.
func (d *dice) cells() [][]byte {
	var l [][]byte
	most := 1 + d.below(242)
	for range d.below(130) {
		c := d.cell(most)
		if !hasRoom(append(l, c)) {
			break
		}
		l = append(l, c)
	}
	if free := freeByWords(l); free >= 0 && d.below(3) == 0 {
		l = append(l, d.bytes(free))
	}
	return l
}

func (d *dice) page() []byte { return byWords(d.number(), d.kind(), d.cells()) }

// broken is a page that has mostly some other bytes, in the parts that say something most of all; its last four bytes are often its sum.
func (d *dice) broken() []byte {
	p := d.page()
	for range d.below(3) {
		switch d.below(8) {
		case 0:
			p[d.below(5)] = []byte{0, 127, 128, 255}[d.below(4)]
		case 1:
			p[5] = byte(d.throw())
		case 2:
			p[5] += byte(d.below(3) - 1)
		case 3:
			p[7] += byte(d.below(3) - 1)
		case 4:
			p[6] = byte(d.below(2))
		case 5:
			p[8+d.below(1+2*int(p[5]))%244] += byte(d.below(3) - 1)
		case 6:
			p[d.below(256)] = byte(d.throw())
		case 7:
			p[8+d.below(20)] = 0
		}
	}
	if d.below(2) == 0 {
		p = summed(p)
	}
	if d.below(30) == 0 {
		p = append(p, p...)[:252+d.below(8)]
	}
	return p
}

// said is what a page says.
type said struct {
	no    int
	kind  byte
	cells [][]byte
}

// readByWords asks the chapter's words one behind the other; the last four bytes do not count.
func readByWords(p []byte) (said, bool) {
	if len(p) != 256 {
		return said{}, false
	}
	no, kind, count, total := 0, p[4], int(p[5]), int(p[6])*256+int(p[7])
	for i := range 4 {
		no = no*256 + int(p[i])
	}
	if no > greatest || kind == 0 || 2*count+total > 244 {
		return said{}, false
	}
	s, ends := said{no: no, kind: kind}, []int{0}
	for i := range count {
		ends = append(ends, int(p[8+2*i])*256+int(p[9+2*i]))
	}
	if !slices.IsSorted(ends) || ends[count] != total {
		return said{}, false
	}
	for i := range count {
		s.cells = append(s.cells, p[8+2*count:][ends[i]:ends[i+1]])
	}
	for i := 8 + 2*count + total; i < 252; i++ {
		if p[i] != 0 {
			return said{}, false
		}
	}
	return s, true
}

// wantAsByWords holds all that is told of bytes against the chapter's words.
func wantAsByWords(t *testing.T, d *dice, p []byte) bool {
	t.Helper()
	s, ok := readByWords(p)
	if !ok {
		wantSays(t, p, 0, -1, nil)
		b, e := page.Seal(p)
		wantRefusal(t, "Seal", b, e, api.ErrForm)
		b, e = page.Insert(p, 0, nil)
		wantRefusal(t, "Insert", b, e, api.ErrForm)
		return false
	}
	wantSays(t, p, s.kind, freeByWords(s.cells), s.cells)
	b, e := page.Seal(p)
	wantPage(t, "Seal", b, e, summed(p))
	b, e = page.Fill(s.no, page.Kind(p), page.Cells(p))
	wantPage(t, "Fill", b, e, with(p, 252, 0, 0, 0, 0))
	if i := d.below(len(s.cells) + 1); i < len(s.cells) {
		b, e = page.Get(p, i)
		wantPage(t, "Get", b, e, s.cells[i])
	}
	return true
}

// wantOpenAsByWords holds Open against the chapter's words.
func wantOpenAsByWords(t *testing.T, b []byte, no int) api.Errno {
	t.Helper()
	need := api.OK
	s, ok := readByWords(b)
	switch {
	case len(b) != 256:
		need = api.ErrShort
	case !bytes.Equal(b, summed(b)):
		need = api.ErrSum
	case !ok:
		need = api.ErrForm
	case s.no != no:
		need = api.ErrStale
	}
	p, e := page.Open(b, no)
	if need != api.OK {
		wantRefusal(t, "Open", p, e, need)
	} else {
		wantPage(t, "Open", p, e, with(b, 252, 0, 0, 0, 0))
	}
	return need
}

// P9.1 to P9.4, by the chapter's words

func TestByTheChaptersWords(t *testing.T) {
	d, pages, told := dice(9), 0, map[api.Errno]int{}
	for range 40000 {
		p := d.broken()
		if wantAsByWords(t, &d, p) {
			pages++
		}
		no := d.number()
		if s, ok := readByWords(p); ok && d.below(3) > 0 {
			no = s.no
		}
		told[wantOpenAsByWords(t, p, no)]++
	}
	if pages < 10000 || pages > 30000 {
		t.Errorf("%d are pages: too few, or too many, to tell", pages)
	}
	for _, e := range []api.Errno{api.OK, api.ErrShort, api.ErrSum, api.ErrForm, api.ErrStale} {
		if told[e] < 500 {
			t.Errorf("%d is told %d times: too few to tell", e, told[e])
		}
	}
}

// Each byte of a page is each number once.
func TestEachByteByTheChaptersWords(t *testing.T) {
	d := dice(99)
	for _, cells := range [][][]byte{nil, texts("ab", "", "cde"), sized(120, 120), make([][]byte, 122)} {
		right := byWords(7, 1, cells)
		for at := range right {
			for c := range 256 {
				p := with(right, at, byte(c))
				wantAsByWords(t, &d, p)
				wantOpenAsByWords(t, summed(p), 7)
			}
		}
	}
}

func TestAnyBytes(t *testing.T) {
	d := dice(999)
	for range 20000 {
		p := d.bytes(254 + d.below(4))
		for range d.below(1000) {
			p[d.below(len(p))] = 0
		}
		wantAsByWords(t, &d, p)
		wantOpenAsByWords(t, p, d.number())
	}
}

// A page that is changed again and again has just the cells that a list has which is changed likewise.
func TestManyChanges(t *testing.T) {
	d, refused := dice(90), 0
	for range 200 {
		no, kind := d.number(), d.kind()
		p, cells := byWords(no, kind, nil), [][]byte{}
		for range 300 {
			b, i := d.cell(1+d.below(60)), d.below(len(cells)+3)-1
			next, q, e, need := slices.Clone(cells), []byte(nil), api.OK, api.OK
			switch way := d.below(5); {
			case way < 2:
				q, e = page.Insert(p, i, b)
				if i < 0 || i > len(cells) {
					need = api.ErrNone
				} else {
					next = slices.Insert(next, i, b)
				}
			case i < 0 || i >= len(cells):
				need = api.ErrNone
				if q, e = page.Remove(p, i); way > 2 {
					q, e = page.Replace(p, i, b)
				}
			case way == 2:
				q, e = page.Remove(p, i)
				next = slices.Delete(next, i, i+1)
			default:
				q, e = page.Replace(p, i, b)
				next[i] = b
			}
			if need == api.OK && !hasRoom(next) {
				need = api.ErrRoom
			}
			if need != api.OK {
				refused++
				wantRefusal(t, "a change", q, e, need)
				continue
			}
			wantPage(t, "a change", q, e, byWords(no, kind, next))
			p, cells = q, next
		}
	}
	if refused < 2000 {
		t.Errorf("%d changes are refused: too few to tell", refused)
	}
}

// P9.5

func TestPagesAreTheirCells(t *testing.T) {
	d := dice(91)
	for range 10000 {
		no, kind, cells := d.number(), d.kind(), d.cells()
		p, e := page.Fill(no, kind, cells)
		wantPage(t, "Fill", p, e, byWords(no, kind, cells))
		again, e := page.Fill(no, page.Kind(p), page.Cells(p))
		wantPage(t, "Fill again", again, e, p)
		one, e := page.New(no, kind)
		for i, c := range cells {
			if e == api.OK {
				one, e = page.Insert(one, i, c)
			}
		}
		wantPage(t, "one by one", one, e, p)
	}
}

// Pages of other cells, or of another number or kind, are others.
func TestOtherCellsAreAnotherPage(t *testing.T) {
	seen := map[string]int{}
	lists := [][][]byte{nil, {nil}, {nil, nil}, {{0}}, {{0}, nil}, {nil, {0}}, {{0, 0}}, {{0}, {0}}, {{1}}, texts("ab"), texts("a", "b"), texts("", "ab"), texts("ab", ""), texts("b", "a")}
	for i, cells := range lists {
		for no := range 3 {
			for _, kind := range []byte{1, 2} {
				p, e := page.Fill(no, kind, cells)
				if e != api.OK || seen[string(p)] != 0 {
					t.Fatalf("list %d: error %d, the page of %d", i, e, seen[string(p)])
				}
				seen[string(p)] = i + 1
			}
		}
	}
}

func TestInsertedGotAndRemoved(t *testing.T) {
	d := dice(92)
	lists := someCells()
	for range 300 {
		lists = append(lists, d.cells())
	}
	for _, cells := range lists {
		p, e := page.Fill(d.number(), d.kind(), cells)
		if e != api.OK {
			t.Fatalf("Fill: error %d", e)
		}
		free := page.Free(p)
		if free < 0 {
			continue
		}
		for i := range len(cells) + 1 {
			for _, b := range [][]byte{nil, d.bytes(min(free, 1)), d.bytes(d.below(free + 1)), d.bytes(free)} {
				q, e := page.Insert(p, i, b)
				if e != api.OK || page.Count(q) != len(cells)+1 {
					t.Fatalf("Insert: error %d", e)
				}
				got, e := page.Get(q, i)
				wantPage(t, "Get", got, e, b)
				if i > 0 {
					got, e = page.Get(q, i-1)
					wantPage(t, "the one ahead", got, e, cells[i-1])
				}
				if i < len(cells) {
					got, e = page.Get(q, i+1)
					wantPage(t, "the one behind", got, e, cells[i])
				}
				back, e := page.Remove(q, i)
				wantPage(t, "Remove", back, e, p)
			}
		}
	}
}

func TestWhatIsSealedIsOpened(t *testing.T) {
	d := dice(93)
	for range 10000 {
		no := d.number()
		p := byWords(no, d.kind(), d.cells())
		s, e := page.Seal(p)
		wantPage(t, "Seal", s, e, summed(p))
		q, e := page.Open(s, no)
		wantPage(t, "Open", q, e, p)
		for _, other := range []int{no + 1, no - 1, no ^ 1<<d.below(31), -no - 1, d.number()} {
			if other != no {
				q, e = page.Open(s, other)
				wantRefusal(t, "Open with another number", q, e, api.ErrStale)
			}
		}
		again, e := page.Seal(s)
		wantPage(t, "Seal again", again, e, s)
	}
}

// patterns are bits to turn: one, two, running ones, and others, at most 32 of them running.
func patterns() []uint32 {
	var l []uint32
	for i := range 32 {
		l = append(l, 1|1<<i, math.MaxUint32>>i)
	}
	d := dice(94)
	for range 60 {
		l = append(l, uint32(d.throw()>>20)|1)
	}
	// What the sum itself is made by, in both directions.
	return append(l, 0xedb88320, 0x04c11db7, 0x82608edb, 0xdb710641, 0xff0000ff)
}

// turned is a page with the bits of a pattern turned from a place on, of each byte from the lowest on; false: one of them is not there.
func turned(b []byte, place int, pattern uint32) ([]byte, bool) {
	b = slices.Clone(b)
	for i := range 32 {
		if pattern>>i&1 == 0 {
			continue
		}
		at := place + i
		if at >= 8*len(b) {
			return nil, false
		}
		b[at/8] ^= 1 << (at % 8)
	}
	return b, true
}

func TestTurnedBitsAreRefused(t *testing.T) {
	all := patterns()
	for _, right := range [][]byte{byWords(7, 1, nil), byWords(greatest, 255, sized(242)), byWords(256, 2, texts("ab", "", "cde")), byWords(0, 1, make([][]byte, 122))} {
		s, e := page.Seal(right)
		wantPage(t, "Seal", s, e, summed(right))
		no := int(right[0])<<24 | int(right[1])<<16 | int(right[2])<<8 | int(right[3])
		for place := range 8 * 256 {
			for _, p := range all {
				if wrong, ok := turned(s, place, p); ok {
					got, e := page.Open(wrong, no)
					wantRefusal(t, "Open", got, e, api.ErrSum)
				}
			}
		}
	}
}

// What is handed in and out (DOC.md's rules 2 and 4)

// roomy is b at the beginning of greater memory, whose bytes behind it are all 165.
func roomy(b []byte) []byte {
	whole := bytes.Repeat([]byte{165}, len(b)+300)
	copy(whole, b)
	return whole[:len(b)]
}

// untouched tells whether b, with what lies behind it, is as roomy made it.
func untouched(b, as []byte) bool {
	return bytes.Equal(b, as) && !slices.ContainsFunc(b[len(b):len(b)+300], func(c byte) bool { return c != 165 })
}

// A call is one that is handed bytes, and tells some.
type call struct {
	name string
	do   func(p, b []byte) ([]byte, api.Errno)
}

func calls() []call {
	return []call{
		{"Open", func(p, b []byte) ([]byte, api.Errno) { return page.Open(p, 7) }},
		{"Open of another", func(p, b []byte) ([]byte, api.Errno) { return page.Open(p, 8) }},
		{"Seal", func(p, b []byte) ([]byte, api.Errno) { return page.Seal(p) }},
		{"Get", func(p, b []byte) ([]byte, api.Errno) { return page.Get(p, 0) }},
		{"Get of the last", func(p, b []byte) ([]byte, api.Errno) { return page.Get(p, 1) }},
		{"Insert ahead", func(p, b []byte) ([]byte, api.Errno) { return page.Insert(p, 0, b) }},
		{"Insert behind", func(p, b []byte) ([]byte, api.Errno) { return page.Insert(p, 2, b) }},
		{"Replace", func(p, b []byte) ([]byte, api.Errno) { return page.Replace(p, 0, b) }},
		{"Remove", func(p, b []byte) ([]byte, api.Errno) { return page.Remove(p, 0) }},
		{"Fill", func(p, b []byte) ([]byte, api.Errno) { return page.Fill(7, 1, [][]byte{b, b}) }},
		{"Fill of both", func(p, b []byte) ([]byte, api.Errno) { return page.Fill(7, 1, [][]byte{b, p[:3:3]}) }},
		{"New", func(p, b []byte) ([]byte, api.Errno) { return page.New(7, 1) }},
		{"Cells", func(p, b []byte) ([]byte, api.Errno) { return slices.Concat(page.Cells(p)...), api.OK }},
		{"Kind, Count, Free", func(p, b []byte) ([]byte, api.Errno) {
			return []byte{page.Kind(p), byte(page.Count(p)), byte(page.Free(p))}, api.OK
		}},
	}
}

func TestWhatIsHandedInStaysAndIsNotKept(t *testing.T) {
	right := byWords(7, 1, texts("ab", "cde"))
	for _, in := range [][]byte{right, summed(right), with(right, 252, 1, 2, 3, 4), with(right, 200, 1), right[:255], append(slices.Clone(right), 0)} {
		for _, cell := range [][]byte{{}, []byte("xyz"), counted(233), counted(243)} {
			for _, c := range calls() {
				p, b := roomy(in), roomy(cell)
				got, e := c.do(p, b)
				if !untouched(p, in) || !untouched(b, cell) {
					t.Fatalf("%s changes what it is handed", c.name)
				}
				need := slices.Clone(got)
				again, f := c.do(p, b)
				for _, l := range [][]byte{p, b, again} {
					l = l[:cap(l)]
					for i := range l {
						l[i] = 77
					}
				}
				if e != f || !bytes.Equal(got, need) {
					t.Fatalf("%s: what is told shares memory, or is another one the next time", c.name)
				}
			}
		}
	}
}

// Bytes of a page may be put into it as a cell.
func TestACellOfThePageItself(t *testing.T) {
	p := byWords(7, 1, texts("ab", "cde"))
	before := slices.Clone(p)
	q, e := page.Insert(p, 1, p[:20])
	wantPage(t, "Insert", q, e, byWords(7, 1, [][]byte{[]byte("ab"), before[:20], []byte("cde")}))
	q, e = page.Replace(p, 1, p[10:14])
	wantPage(t, "Replace", q, e, byWords(7, 1, [][]byte{[]byte("ab"), before[10:14]}))
	wantPage(t, "what was handed in", p, api.OK, before)
}

func TestCellsAreMemoryOfTheirOwn(t *testing.T) {
	cells := texts("ab", "", "cde", "f")
	p := byWords(7, 1, cells)
	for i := range cells {
		l := page.Cells(p)
		whole := append(l[i], "more than there was"...)
		for j := range whole {
			whole[j] = 77
		}
		own := l[i][:cap(l[i])]
		for j := range own {
			own[j] = 78
		}
		for j, c := range cells {
			if j != i && !bytes.Equal(l[j], c) {
				t.Fatalf("the cells %d and %d share memory", i, j)
			}
		}
		wantSays(t, p, 1, freeByWords(cells), cells)
	}
}

func TestTheListOfCellsStaysAndIsNotKept(t *testing.T) {
	mark := []byte("mark")
	whole := [][]byte{[]byte("ab"), []byte("cde"), mark, mark}
	p, e := page.Fill(7, 1, whole[:2])
	need := byWords(7, 1, texts("ab", "cde"))
	wantPage(t, "Fill", p, e, need)
	if !sameCells(whole, texts("ab", "cde", "mark", "mark")) {
		t.Fatalf("Fill changes its list: %q", whole)
	}
	whole[0][0], whole[1] = 'x', mark
	wantPage(t, "what was told", p, api.OK, need)
}
