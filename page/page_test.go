package page_test

import (
	"bytes"
	"hash/crc32"
	"math"
	"slices"
	"testing"

	"tabulary/api"
	"tabulary/page"
)

// greatest is the greatest number of a page.
const greatest = 2147483647

// byWords is the chapter's words, byte by byte: a page that is not sealed.
func byWords(no int, kind byte, cells [][]byte) []byte {
	p := []byte{byte(no >> 24), byte(no >> 16), byte(no >> 8), byte(no), kind, byte(len(cells))}
	total := 0
	var ends, all []byte
	for _, c := range cells {
		total += len(c)
		ends = append(ends, byte(total>>8), byte(total))
		all = append(all, c...)
	}
	p = append(p, byte(total>>8), byte(total))
	p = append(p, ends...)
	p = append(p, all...)
	return append(p, make([]byte, 256-len(p))...)
}

// summed is what stands in a page, with the sum of it in the last four bytes.
func summed(p []byte) []byte {
	s := crc32.ChecksumIEEE(p[:252])
	return append(slices.Clone(p[:252]), byte(s), byte(s>>8), byte(s>>16), byte(s>>24))
}

// with is p with other bytes from a place on.
func with(p []byte, at int, b ...byte) []byte {
	p = slices.Clone(p)
	copy(p[at:], b)
	return p
}

// counted has n bytes, none of them 0.
func counted(n int) []byte {
	b := make([]byte, n)
	for i := range b {
		b[i] = byte(i%255 + 1)
	}
	return b
}

// texts are cells.
func texts(l ...string) [][]byte {
	var cells [][]byte
	for _, s := range l {
		cells = append(cells, []byte(s))
	}
	return cells
}

// sized are cells of so many bytes.
func sized(l ...int) [][]byte {
	var cells [][]byte
	for _, n := range l {
		cells = append(cells, counted(n))
	}
	return cells
}

func numbers() []int {
	return []int{0, 1, 7, 255, 256, 65535, 65536, 1<<24 - 1, 1 << 24, 0x01020304, greatest - 1, greatest}
}

func wrongNumbers() []int {
	return []int{-1, -2, -256, math.MinInt32, math.MinInt32 - 1, -1 << 32, math.MinInt + 7, math.MinInt, greatest + 1, greatest + 2, 1<<32 - 1, 1 << 32, 1<<32 + 7, math.MaxInt - 1, math.MaxInt}
}

func kinds() []byte { return []byte{1, 2, 4, 127, 128, 254, 255} }

// someCells are cells that have room, many of them at an edge.
func someCells() [][][]byte {
	l := [][][]byte{
		nil,
		{},
		{nil},
		{{}},
		texts("ab"),
		texts("xyz", "ab", ""),
		texts("", "", "a"),
		texts("a", "", "b", "", ""),
		{{0}},
		{{0}, {0, 0}, nil, {0}},
		{{255, 255}, {255}},
		sized(241), // a byte is left, which is no room for another cell
		sized(242),
		sized(240), // an end has just room
		sized(120, 120),
		sized(0, 240),
		sized(240, 0),
		sized(1, 238),
		sized(79, 79, 80),
		sized(78, 79, 80),
		{make([]byte, 242)},
		make([][]byte, 1),
		make([][]byte, 121),
		make([][]byte, 122), // as many as have room
		slices.Repeat([][]byte{{9}}, 81),
	}
	for n := range 243 {
		l = append(l, sized(n))
	}
	return l
}

// tooMuch are cells that have no room.
func tooMuch() [][][]byte {
	big := make([]byte, 1<<20)
	return [][][]byte{
		sized(243),
		sized(244),
		sized(255),
		sized(256),
		sized(0, 241),
		sized(242, 0),
		sized(120, 121),
		sized(79, 80, 80),
		make([][]byte, 123),
		make([][]byte, 255),
		make([][]byte, 256), // how many there are goes round in a byte
		make([][]byte, 257),
		make([][]byte, 65536),
		append(make([][]byte, 121), []byte{1}),
		append(make([][]byte, 122), nil),
		{big[:65535]},
		{big[:65536]}, // how many bytes they have goes round in two bytes
		{big[:65538]},
		{big[:65535], {1}},
		{big[:32768], big[:32768]},
		slices.Repeat([][]byte{big}, 1<<14), // and in 32 bits
		{nil, big, nil},
	}
}

func wantPage(t *testing.T, call string, got []byte, e api.Errno, need []byte) {
	t.Helper()
	if e != api.OK || !bytes.Equal(got, need) {
		t.Fatalf("%s: %v, error %d, not\n%v", call, got, e, need)
	}
}

func wantRefusal(t *testing.T, call string, got []byte, e, need api.Errno) {
	t.Helper()
	if e != need || len(got) != 0 {
		t.Fatalf("%s: %v, error %d, not %d", call, got, e, need)
	}
}

func sameCells(a, b [][]byte) bool { return slices.EqualFunc(a, b, bytes.Equal) }

// wantSays asks all that is told of bytes.
func wantSays(t *testing.T, p []byte, kind byte, free int, cells [][]byte) {
	t.Helper()
	if k, n, f := page.Kind(p), page.Count(p), page.Free(p); k != kind || n != len(cells) || f != free {
		t.Fatalf("kind %d, %d cells, %d free; not %d, %d, %d, of\n%v", k, n, f, kind, len(cells), free, p)
	}
	if l := page.Cells(p); !sameCells(l, cells) {
		t.Fatalf("Cells: %v, not %v", l, cells)
	}
}

// taken is how many bytes of the room cells take.
func taken(cells [][]byte) int {
	n := 0
	for _, c := range cells {
		n += len(c) + 2
	}
	return n
}

func hasRoom(cells [][]byte) bool { return taken(cells) <= 244 }

// freeByWords is how many bytes one more cell may have: the greatest number that has room.
func freeByWords(cells [][]byte) int {
	free := -1
	for n := 0; taken(cells)+n+2 <= 244; n++ {
		free = n
	}
	return free
}

// noPages are bytes that are almost a page; their last four bytes are 0.
func noPages() map[string][]byte {
	none, two, full := byWords(7, 1, nil), byWords(7, 1, texts("ab", "cde")), byWords(7, 1, make([][]byte, 122))
	long := byWords(7, 1, sized(242))
	return map[string][]byte{
		"all 0":                       make([]byte, 256),
		"all 255":                     append(bytes.Repeat([]byte{255}, 252), 0, 0, 0, 0),
		"the kind 0":                  with(none, 4, 0),
		"the kind 0, with cells":      with(two, 4, 0),
		"a number above the greatest": with(none, 0, 128, 0, 0, 0),
		"the number -1":               with(two, 0, 255, 255, 255, 255),
		"a number with its high bit":  with(two, 0, 128),
		"a cell less":                 with(two, 5, 1),
		"a cell more":                 with(two, 5, 3),
		"cells, and none counted":     with(two, 5, 0),
		"123 cells of no bytes":       with(full, 5, 123),
		"128 cells of no bytes":       with(full, 5, 128),
		"255 cells of no bytes":       with(full, 5, 255),
		"one cell that is none":       with(none, 5, 1, 0, 1),
		"a byte too many":             with(two, 6, 0, 6),
		"a byte too few":              with(two, 6, 0, 4),
		"256 bytes too many":          with(two, 6, 1, 5),
		"no byte":                     with(two, 6, 0, 0),
		"bytes of no cell":            with(none, 6, 0, 1),
		"all room of no cell":         with(none, 6, 0, 244),
		"more than all room":          with(none, 6, 0, 245),
		"65535 bytes of no cell":      with(none, 6, 255, 255),
		"an end that falls":           with(two, 8, 0, 6, 0, 5),
		"an end that falls to 0":      with(two, 8, 0, 2, 0, 0),
		"a last end behind all":       with(two, 10, 0, 6),
		"a last end ahead of all":     with(two, 10, 0, 4),
		"an end far behind":           with(two, 8, 1, 2),
		"an end of 65535":             with(two, 8, 255, 255),
		"ends of 65535":               with(two, 6, 255, 255, 255, 255, 255, 255),
		"a first end behind all":      with(two, 8, 0, 200),
		"an end of 243":               with(long, 6, 0, 243, 0, 243),
		"an end of 244":               with(long, 6, 0, 244, 0, 244),
		"an end of 247":               with(long, 6, 0, 247, 0, 247),
		"243 bytes, an end of 242":    with(long, 6, 0, 243),
		"122 cells of a byte":         with(full, 6, append([]byte{0, 1}, bytes.Repeat([]byte{0, 1}, 122)...)...),
		"a byte behind the cells":     with(two, 17, 1),
		"a byte behind no cell":       with(none, 8, 1),
		"a byte in the midst":         with(two, 130, 128),
		"the 252nd byte":              with(two, 251, 255),
		"the 252nd byte, of no cell":  with(none, 251, 1),
	}
}

// wrongLengths are a page's bytes, too few of them, and too many.
func wrongLengths() [][]byte {
	p := byWords(7, 1, texts("ab"))
	l := [][]byte{nil, {}, p[:1], p[:4], p[:8], p[:12], p[:251], p[:252], p[:253], p[:255]}
	for _, n := range []int{1, 4, 256} {
		l = append(l, append(slices.Clone(p), make([]byte, n)...))
	}
	return append(l, append(slices.Clone(p), p...))
}

// otherEnds are a page with other last four bytes, which do not count: sealed, and with any.
func otherEnds(p []byte) [][]byte {
	return [][]byte{summed(p), with(p, 252, 0, 0, 0, 1), with(p, 252, 1), with(p, 252, 255, 255, 255, 255), with(p, 252, 1, 2, 3, 4)}
}

// P9.1

func TestExample(t *testing.T) {
	p, e := page.New(7, 1)
	wantPage(t, "New", p, e, append([]byte{0, 0, 0, 7, 1}, make([]byte, 251)...))
	q, e := page.Insert(p, 0, []byte("ab"))
	wantPage(t, "Insert", q, e, append([]byte{0, 0, 0, 7, 1, 1, 0, 2, 0, 2, 'a', 'b'}, make([]byte, 244)...))
	if page.Room != 244 || page.Free(p) != 242 || page.Free(q) != 238 {
		t.Fatalf("Room %d, free %d, then %d", page.Room, page.Free(p), page.Free(q))
	}
	// Each part of a page is told apart here: no two bytes next to each other are the same.
	p, e = page.Fill(0x01020304, 5, [][]byte{{9}, {8, 7}, {}, {6}})
	need := append([]byte{1, 2, 3, 4, 5, 4, 0, 4, 0, 1, 0, 3, 0, 3, 0, 4, 9, 8, 7, 6}, make([]byte, 236)...)
	wantPage(t, "Fill", p, e, need)
	s, e := page.Seal(p)
	sum := crc32.ChecksumIEEE(need[:252])
	wantPage(t, "Seal", s, e, with(need, 252, byte(sum), byte(sum>>8), byte(sum>>16), byte(sum>>24)))
}

func TestNew(t *testing.T) {
	for _, no := range numbers() {
		for _, kind := range kinds() {
			p, e := page.New(no, kind)
			wantPage(t, "New", p, e, byWords(no, kind, nil))
		}
	}
}

func TestNewRefuses(t *testing.T) {
	for _, no := range wrongNumbers() {
		for _, kind := range append(kinds(), 0) {
			p, e := page.New(no, kind)
			wantRefusal(t, "New", p, e, api.ErrInvalid)
		}
	}
	for _, no := range numbers() {
		p, e := page.New(no, 0)
		wantRefusal(t, "New", p, e, api.ErrInvalid)
	}
}

func TestFill(t *testing.T) {
	for i, cells := range someCells() {
		no, kind := numbers()[i%len(numbers())], kinds()[i%len(kinds())]
		p, e := page.Fill(no, kind, cells)
		wantPage(t, "Fill", p, e, byWords(no, kind, cells))
	}
}

func TestFillRefuses(t *testing.T) {
	for _, cells := range tooMuch() {
		p, e := page.Fill(7, 1, cells)
		wantRefusal(t, "Fill of too much", p, e, api.ErrRoom)
	}
	// What is wrong with the number or the kind is told ahead of the room.
	for _, cells := range append(tooMuch()[:12], nil, texts("ab"), sized(242)) {
		for _, no := range append(wrongNumbers(), 0, 7, greatest) {
			p, e := page.Fill(no, 0, cells)
			wantRefusal(t, "Fill of the kind 0", p, e, api.ErrInvalid)
		}
		for _, no := range wrongNumbers() {
			p, e := page.Fill(no, 1, cells)
			wantRefusal(t, "Fill of a wrong number", p, e, api.ErrInvalid)
		}
	}
}

// P9.2

func TestSeal(t *testing.T) {
	for i, cells := range someCells() {
		p := byWords(numbers()[i%len(numbers())], kinds()[i%len(kinds())], cells)
		for _, q := range append(otherEnds(p), p) {
			s, e := page.Seal(q)
			wantPage(t, "Seal", s, e, summed(p))
		}
	}
}

func TestSealRefuses(t *testing.T) {
	for what, p := range noPages() {
		for _, q := range append(otherEnds(p), p) {
			s, e := page.Seal(q)
			wantRefusal(t, "Seal of "+what, s, e, api.ErrForm)
		}
	}
	for _, p := range wrongLengths() {
		s, e := page.Seal(p)
		wantRefusal(t, "Seal of another length", s, e, api.ErrForm)
	}
}

func TestOpen(t *testing.T) {
	for i, cells := range someCells() {
		no := numbers()[i%len(numbers())]
		p := byWords(no, kinds()[i%len(kinds())], cells)
		q, e := page.Open(summed(p), no)
		wantPage(t, "Open", q, e, p)
	}
}

func TestOpenOfAnotherLength(t *testing.T) {
	for _, b := range wrongLengths() {
		for _, no := range []int{7, 8, -1, 0, math.MinInt, math.MaxInt} {
			p, e := page.Open(b, no)
			wantRefusal(t, "Open", p, e, api.ErrShort)
		}
	}
	whole := summed(byWords(7, 1, texts("ab")))
	for n := range 512 {
		if n == 256 {
			continue
		}
		p, e := page.Open(append(slices.Clone(whole), whole...)[:n], 7)
		wantRefusal(t, "Open", p, e, api.ErrShort)
	}
	// Bytes that have their sum behind them, as chapter 2 seals them, and are too few or too many.
	for _, n := range []int{0, 1, 248, 251, 253, 508} {
		b := append(slices.Clone(whole), whole...)[:n]
		s := crc32.ChecksumIEEE(b)
		p, e := page.Open(append(b, byte(s), byte(s>>8), byte(s>>16), byte(s>>24)), 7)
		wantRefusal(t, "Open", p, e, api.ErrShort)
	}
}

func TestOpenOfAnotherSum(t *testing.T) {
	p := byWords(7, 1, texts("ab"))
	s := summed(p)
	wrong := [][]byte{
		p,
		with(p, 252, s[255], s[254], s[253], s[252]),
		with(p, 252, ^s[252], ^s[253], ^s[254], ^s[255]),
		with(p, 252, 255, 255, 255, 255),
		with(s, 3, 8),
		with(s, 8, 0, 0),
		with(s, 200, 1),
		make([]byte, 256),
	}
	for i := range 4 {
		wrong = append(wrong, with(s, 252+i, s[252+i]+1), with(s, 252+i, s[252+i]^128))
	}
	sum := crc32.ChecksumIEEE(p) // of all bytes, not of the first 252
	wrong = append(wrong, with(p, 252, byte(sum), byte(sum>>8), byte(sum>>16), byte(sum>>24)))
	for _, b := range wrong {
		for _, no := range []int{7, 8, 0, -1, math.MaxInt} {
			q, e := page.Open(b, no)
			wantRefusal(t, "Open", q, e, api.ErrSum)
		}
	}
	// What is no page, too, and has another sum.
	for what, p := range noPages() {
		b := summed(p)
		b[252]++
		q, e := page.Open(b, 7)
		wantRefusal(t, "Open of "+what, q, e, api.ErrSum)
	}
}

func TestOpenOfNoPage(t *testing.T) {
	for what, p := range noPages() {
		for _, no := range []int{7, 8, 0, -1, math.MaxInt} {
			q, e := page.Open(summed(p), no)
			wantRefusal(t, "Open of "+what, q, e, api.ErrForm)
		}
	}
	for _, no := range []int{greatest + 1, 1<<32 - 1, 1<<31 + 7} {
		q, e := page.Open(summed(byWords(no, 1, nil)), no)
		wantRefusal(t, "Open of a number above the greatest", q, e, api.ErrForm)
	}
}

func TestOpenOfAnotherNumber(t *testing.T) {
	for _, is := range numbers() {
		b := summed(byWords(is, 1, texts("ab")))
		for _, no := range append(append(numbers(), wrongNumbers()...), is+1<<32, is-1<<32, is+1, is-1, ^is, -is) {
			if no == is {
				continue
			}
			p, e := page.Open(b, no)
			wantRefusal(t, "Open", p, e, api.ErrStale)
		}
	}
}

// P9.3

func TestWhatAPageSays(t *testing.T) {
	for i, cells := range someCells() {
		no, kind := numbers()[i%len(numbers())], kinds()[i%len(kinds())]
		p := byWords(no, kind, cells)
		for _, q := range append(otherEnds(p), p) {
			wantSays(t, q, kind, freeByWords(cells), cells)
		}
	}
}

func TestFree(t *testing.T) {
	for _, c := range []struct {
		cells [][]byte
		free  int
	}{
		{nil, 242},
		{texts("ab"), 238},
		{make([][]byte, 1), 240},
		{sized(239), 1},
		{sized(240), 0},
		{sized(241), -1},
		{sized(242), -1},
		{sized(119, 120), -1},
		{sized(119, 119), 0},
		{sized(118, 119), 1},
		{make([][]byte, 120), 2},
		{make([][]byte, 121), 0},
		{make([][]byte, 122), -1},
	} {
		if free := page.Free(byWords(7, 1, c.cells)); free != c.free {
			t.Fatalf("%d cells: free %d, not %d", len(c.cells), free, c.free)
		}
	}
}

// What Free tells has room, and one byte more has none.
func TestFreeIsTheMostThatHasRoom(t *testing.T) {
	for _, cells := range someCells() {
		p := byWords(7, 1, cells)
		for _, i := range []int{0, len(cells) / 2, len(cells)} {
			free := page.Free(p)
			q, e := page.Insert(p, i, counted(free+1))
			wantRefusal(t, "Insert of one byte more", q, e, api.ErrRoom)
			if free < 0 {
				continue
			}
			q, e = page.Insert(p, i, counted(free))
			wantPage(t, "Insert", q, e, byWords(7, 1, slices.Insert(slices.Clone(cells), i, counted(free))))
			if page.Free(q) != -1 {
				t.Fatalf("free %d of a full page", page.Free(q))
			}
		}
	}
}

func TestWhatNoPageSays(t *testing.T) {
	for _, p := range noPages() {
		for _, q := range append(otherEnds(p), p) {
			wantSays(t, q, 0, -1, nil)
		}
	}
	for _, p := range wrongLengths() {
		wantSays(t, p, 0, -1, nil)
	}
}

// P9.4

// wrongPlaces are some that are not from 0 up to the last one.
func wrongPlaces(last int) []int {
	return []int{-1, -2, -256, math.MinInt32, -1 << 32, math.MinInt + 1, math.MinInt, last + 1, last + 2, last + 256, last + 257, last + 1<<32, greatest, math.MaxInt - 1, math.MaxInt}
}

func TestGet(t *testing.T) {
	for i, cells := range someCells() {
		p := byWords(numbers()[i%len(numbers())], kinds()[i%len(kinds())], cells)
		for _, q := range append(otherEnds(p), p) {
			for j, c := range cells {
				b, e := page.Get(q, j)
				wantPage(t, "Get", b, e, c)
			}
			for _, j := range wrongPlaces(len(cells) - 1) {
				b, e := page.Get(q, j)
				wantRefusal(t, "Get", b, e, api.ErrNone)
			}
		}
	}
}

func TestInsert(t *testing.T) {
	for i, cells := range someCells() {
		no, kind := numbers()[i%len(numbers())], kinds()[i%len(kinds())]
		p := byWords(no, kind, cells)
		for _, b := range [][]byte{nil, {}, {0}, []byte("abc"), counted(page.Free(p) + 1)[:max(page.Free(p), 0)]} {
			for j := range len(cells) + 1 {
				need := slices.Insert(slices.Clone(cells), j, b)
				for _, q := range append(otherEnds(p)[:2], p) {
					got, e := page.Insert(q, j, b)
					if hasRoom(need) {
						wantPage(t, "Insert", got, e, byWords(no, kind, need))
					} else {
						wantRefusal(t, "Insert", got, e, api.ErrRoom)
					}
				}
			}
		}
	}
}

func TestInsertIntoAPageWithoutCells(t *testing.T) {
	p := byWords(7, 1, nil)
	q, e := page.Insert(p, 0, counted(242))
	wantPage(t, "Insert of 242 bytes", q, e, byWords(7, 1, sized(242)))
	for _, n := range []int{243, 244, 255, 256, 65535, 65536, 65538, 1 << 20} {
		q, e = page.Insert(p, 0, make([]byte, n))
		wantRefusal(t, "Insert of too many bytes", q, e, api.ErrRoom)
	}
	for n := range 122 {
		p, e = page.Insert(p, n/2, nil)
		wantPage(t, "Insert of a cell of no bytes", p, e, byWords(7, 1, make([][]byte, n+1)))
	}
	for n := range 123 {
		q, e = page.Insert(p, n, nil)
		wantRefusal(t, "Insert of one more", q, e, api.ErrRoom)
	}
}

func TestReplace(t *testing.T) {
	for i, cells := range someCells() {
		no, kind := numbers()[i%len(numbers())], kinds()[i%len(kinds())]
		p := byWords(no, kind, cells)
		for j, c := range cells {
			more := 244 - taken(cells) // the cell's end is there already
			for _, b := range [][]byte{nil, {}, {0}, c, counted(len(c)), counted(max(len(c)-1, 0)), counted(len(c) + 1), counted(len(c) + more), counted(len(c) + more + 1)} {
				need := slices.Clone(cells)
				need[j] = b
				for _, q := range append(otherEnds(p)[:2], p) {
					got, e := page.Replace(q, j, b)
					if hasRoom(need) {
						wantPage(t, "Replace", got, e, byWords(no, kind, need))
					} else {
						wantRefusal(t, "Replace", got, e, api.ErrRoom)
					}
				}
			}
			if got, e := page.Replace(p, j, counted(len(c)+more)); e != api.OK || page.Free(got) != -1 {
				t.Fatalf("Replace by the longest that has room: error %d, free %d", e, page.Free(got))
			}
			for _, n := range []int{243, 256, 65536, 65536 + len(c), 1 << 20} {
				got, e := page.Replace(p, j, make([]byte, n))
				wantRefusal(t, "Replace", got, e, api.ErrRoom)
			}
		}
	}
}

func TestRemove(t *testing.T) {
	for i, cells := range someCells() {
		no, kind := numbers()[i%len(numbers())], kinds()[i%len(kinds())]
		p := byWords(no, kind, cells)
		for j := range cells {
			need := slices.Delete(slices.Clone(cells), j, j+1)
			for _, q := range append(otherEnds(p), p) {
				got, e := page.Remove(q, j)
				wantPage(t, "Remove", got, e, byWords(no, kind, need))
			}
		}
	}
}

// A place that is none is told ahead of the room.
func TestChangesAtPlacesThatAreNone(t *testing.T) {
	for _, cells := range someCells() {
		p, last := byWords(7, 1, cells), len(cells)-1
		for _, b := range [][]byte{nil, []byte("ab"), make([]byte, 242), make([]byte, 243), make([]byte, 65536)} {
			for _, j := range wrongPlaces(last + 1) {
				q, e := page.Insert(p, j, b)
				wantRefusal(t, "Insert", q, e, api.ErrNone)
			}
			for _, j := range wrongPlaces(last) {
				q, e := page.Replace(p, j, b)
				wantRefusal(t, "Replace", q, e, api.ErrNone)
			}
		}
		for _, j := range wrongPlaces(last) {
			q, e := page.Remove(p, j)
			wantRefusal(t, "Remove", q, e, api.ErrNone)
		}
	}
}

// That it is no page is told ahead of the place and of the room.
func TestChangesOfNoPage(t *testing.T) {
	none := wrongLengths()
	for _, p := range noPages() {
		none = append(append(none, p), otherEnds(p)...)
	}
	for _, p := range none {
		for _, i := range []int{0, 1, 2, -1, 255, math.MinInt, math.MaxInt} {
			b, e := page.Get(p, i)
			wantRefusal(t, "Get", b, e, api.ErrForm)
			b, e = page.Remove(p, i)
			wantRefusal(t, "Remove", b, e, api.ErrForm)
			for _, c := range [][]byte{nil, {1}, make([]byte, 243), make([]byte, 65536)} {
				b, e = page.Insert(p, i, c)
				wantRefusal(t, "Insert", b, e, api.ErrForm)
				b, e = page.Replace(p, i, c)
				wantRefusal(t, "Replace", b, e, api.ErrForm)
			}
		}
	}
}
