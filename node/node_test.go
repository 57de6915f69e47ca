package node_test

import (
	"bytes"
	"hash/crc32"
	"math"
	"slices"
	"strings"
	"testing"

	"tabulary/api"
	"tabulary/node"
)

// with is p with other bytes from a place on.
func with(p []byte, at int, b ...byte) []byte {
	p = slices.Clone(p)
	copy(p[at:], b)
	return p
}

// sealed is a page with the sum of its first 252 bytes in the last four, the lowest first.
func sealed(p []byte) []byte {
	s := crc32.ChecksumIEEE(p[:252])
	return with(p, 252, byte(s), byte(s>>8), byte(s>>16), byte(s>>24))
}

func wantOK(t *testing.T, call string, e api.Errno) {
	t.Helper()
	if e != api.OK {
		t.Fatalf("%s: error %d", call, e)
	}
}

func wantError(t *testing.T, call string, e, need api.Errno) {
	t.Helper()
	if e != need {
		t.Fatalf("%s: error %d, not %d", call, e, need)
	}
}

func TestExample(t *testing.T) {
	n := node.Node{Leaf: true, Keys: []string{"a"}, Vals: [][]byte{[]byte("xy")}}
	if node.MaxVal != 49 || !node.Right(n) || node.Taken(n) != 7 || !node.Fits(n) {
		t.Fatalf("MaxVal %d, Taken %d", node.MaxVal, node.Taken(n))
	}
	if i, ok := node.Find(n, "b"); i != 1 || ok {
		t.Fatalf("Find: %d, %#v", i, ok)
	}
	need := append([]byte{1, 2, 3, 4, 5, 1, 0, 5, 0, 5, 1, 'a', 2, 'x', 'y'}, make([]byte, 241)...)
	if p, e := node.Bytes(0x01020304, n); e != api.OK || !bytes.Equal(p, need) {
		t.Fatalf("Bytes: %#v, error %d", p, e)
	}
	// Each part of an inner node's page is told apart here.
	n = node.Node{Keys: []string{"", "g"}, Kids: []int{4, 0x05060708}}
	need = append([]byte{0, 0, 0, 9, 6, 2, 0, 11, 0, 5, 0, 11, 0, 0, 0, 0, 4, 1, 'g', 5, 6, 7, 8}, make([]byte, 233)...)
	if p, e := node.Bytes(9, n); e != api.OK || node.Taken(n) != 15 || !bytes.Equal(p, need) {
		t.Fatalf("Taken %d; Bytes: %#v, error %d", node.Taken(n), p, e)
	}
}

// P14.1

func TestRightTakenAndFits(t *testing.T) {
	for _, n := range rights() {
		if !node.Right(n) {
			t.Errorf("%#v may be", n)
		}
		wantSize(t, n)
	}
	for what, n := range wrongs() {
		if node.Right(n) || node.Fits(n) || node.Taken(n) != 0 {
			t.Errorf("%s may not be: %d bytes", what, node.Taken(n))
		}
		wantSize(t, n)
	}
}

func TestRightOfEachKeysLength(t *testing.T) {
	for size := range 300 {
		long := strings.Repeat("k", size)
		l := []node.Node{leaf(long, "")}
		if size > 0 {
			l = append(l, leaf("", "", long, ""), leaf("\x01", "", long, "x", "l", ""), inner([]int{1, 2}, long), inner([]int{1, 2, 3, 4}, "\x01", long, "l"))
		}
		for _, n := range l {
			if node.Right(n) != (size <= 40) {
				t.Errorf("a Key of %d bytes: %#v of %#v", size, node.Right(n), n)
			}
			wantSize(t, n)
		}
	}
}

func TestRightOfEachValsLength(t *testing.T) {
	for size := range 320 {
		long := strings.Repeat("v", size)
		for _, n := range []node.Node{leaf("", long), leaf("a", long, "b", ""), leaf("a", "", "b", long), leaf("a", "", "b", long, "c", strings.Repeat("w", 49))} {
			if node.Right(n) != (size <= 49) {
				t.Errorf("a Val of %d bytes: %#v of %#v", size, node.Right(n), n)
			}
			wantSize(t, n)
		}
	}
}

func TestRightOfEachKid(t *testing.T) {
	for _, kid := range []int{0, 1, 7, 255, 65536, 1 << 30, greatest - 1, greatest} {
		for i := range 3 {
			kids := []int{5, 6, 7}
			kids[i] = kid
			if n := inner(kids, "a", "b"); !node.Right(n) || node.Taken(n) != 23 {
				t.Errorf("%#v may be; Taken: %d", n, node.Taken(n))
			}
		}
	}
	for _, kid := range []int{-1, -2, greatest + 1, greatest + 2, 1<<32 - 1, 1 << 32, 1<<32 + 7, math.MinInt32, math.MinInt, math.MinInt + 7, math.MaxInt} {
		for i := range 3 {
			kids := []int{5, 6, 7}
			kids[i] = kid
			if n := inner(kids, "a", "b"); node.Right(n) || node.Taken(n) != 0 || node.Fits(n) {
				t.Errorf("%#v may not be; Taken: %d", n, node.Taken(n))
			}
		}
	}
}

// Keys that differ in a byte, whichever one, or in their length alone.
func TestRightOfEachByte(t *testing.T) {
	for a := range 256 {
		for b := range 256 {
			x, y := string([]byte{'k', byte(a)}), string([]byte{'k', byte(b)})
			for _, n := range []node.Node{leaf(x, "", y, ""), inner([]int{1, 2, 3}, x, y), leaf("a", "", x+"z", "", y+"b", "", "l", "")} {
				if node.Right(n) != (a < b) {
					t.Fatalf("Right: %#v, of %#v", node.Right(n), n)
				}
			}
		}
	}
	for size := range 40 {
		short, long := strings.Repeat("\xff", size), strings.Repeat("\xff", size)+"\x00"
		if !node.Right(leaf(short, "", long, "")) || node.Right(leaf(long, "", short, "")) {
			t.Errorf("Keys of %d bytes, and of one more", size)
		}
	}
}

// How many Vals and Kids there are beside so many Keys.
func TestRightOfEachNumberOfParts(t *testing.T) {
	for keys := range 4 {
		for vals := range 4 {
			for kids := range 4 {
				n := node.Node{Keys: []string{"", "a", "b"}[:keys], Vals: make([][]byte, vals), Kids: []int{1, 2, 3}[:kids]}
				if node.Right(n) != (keys > 0 && kids == keys && vals == 0) {
					t.Errorf("an inner one of %d Keys, %d Vals and %d Kids: %#v", keys, vals, kids, node.Right(n))
				}
				wantSize(t, n)
				n.Leaf = true
				if node.Right(n) != (vals == keys && kids == 0) {
					t.Errorf("a leaf of %d Keys, %d Vals and %d Kids: %#v", keys, vals, kids, node.Right(n))
				}
				wantSize(t, n)
			}
		}
	}
}

// Each length of a cell's parts counts, and two bytes more.
func TestTakenOfEachLength(t *testing.T) {
	for key := range 41 {
		for val := range 50 {
			if n := leaf(keyOf(0, key), strings.Repeat("v", val)); node.Taken(n) != key+val+4 || !node.Fits(n) {
				t.Errorf("a Key of %d and a Val of %d bytes take %d", key, val, node.Taken(n))
			}
		}
		if n := inner([]int{1, greatest}, keyOf(0, key)); key > 0 && node.Taken(n) != 14+key {
			t.Errorf("two Kids, and a Key of %d bytes, take %d", key, node.Taken(n))
		}
	}
}

func TestFitsAtTheEdge(t *testing.T) {
	for last := 5; last <= 93; last++ {
		n := sizedLeaf(93, 93, last)
		if taken := node.Taken(n); taken != 186+last || node.Fits(n) != (last <= 58) {
			t.Errorf("a leaf takes %d, fits: %#v", taken, node.Fits(n))
		}
	}
	for last := 8; last <= 47; last++ {
		n := sizedInner(47, 47, 47, 47, 20, last)
		if taken := node.Taken(n); taken != 215+last || node.Fits(n) != (last <= 29) {
			t.Errorf("an inner one takes %d, fits: %#v", taken, node.Fits(n))
		}
	}
	for count := range 300 {
		if n := sizedLeaf(slices.Repeat([]int{5}, min(count, 250))...); node.Fits(n) != (count <= 48) {
			t.Errorf("%d cells of 5 bytes fit: %#v", count, node.Fits(n))
		}
	}
}

// Many cells, whose number and bytes go round in a byte, and in two.
func TestTakenOfManyCells(t *testing.T) {
	n, in := leaf(), node.Node{Keys: []string{""}, Kids: []int{0}}
	for i := range 70000 {
		key := string([]byte{byte(i>>16) + 1, byte(i >> 8), byte(i)})
		n.Keys, n.Vals = append(n.Keys, key), append(n.Vals, nil)
		in.Keys, in.Kids = append(in.Keys, key), append(in.Kids, i)
	}
	if !node.Right(n) || node.Taken(n) != 490000 || node.Fits(n) || !node.Right(in) || node.Taken(in) != 700007 || node.Fits(in) {
		t.Errorf("Taken: %d and %d", node.Taken(n), node.Taken(in))
	}
	for _, x := range []node.Node{n, in} {
		if p, e := node.Bytes(1, x); e != api.ErrRoom || len(p) > 0 {
			t.Errorf("Bytes: error %d", e)
		}
		if a, b, e := node.Cut(x); e != api.OK || len(a.Keys) != len(x.Keys)-len(b.Keys) || len(a.Keys) < 35000 || len(a.Keys) > 35001 {
			t.Errorf("Cut: %d and %d cells, error %d", len(a.Keys), len(b.Keys), e)
		}
	}
}

// P14.2

func TestBytes(t *testing.T) {
	for _, n := range rights() {
		for _, no := range []int{0, 1, 7, 255, 256, 65536, 0x01020304, greatest - 1, greatest} {
			p, e := wantBytes(t, no, n)
			if node.Fits(n) {
				wantOK(t, "Bytes", e)
				continue
			}
			if wantError(t, "Bytes of too much", e, api.ErrRoom); len(p) > 0 {
				t.Fatalf("Bytes of too much: %#v", p)
			}
		}
	}
}

func wrongNumbers() []int {
	return []int{-1, -2, math.MinInt32, -1 << 32, math.MinInt, math.MinInt + 7, greatest + 1, greatest + 2, 1<<32 - 1, 1 << 32, 1<<32 + 7, math.MaxInt}
}

// Of several errors the first one is told: what may not be, what does not fit, the number.
func TestBytesRefuses(t *testing.T) {
	for _, no := range append(wrongNumbers(), 0, 7, greatest) {
		for what, n := range wrongs() {
			_, e := wantBytes(t, no, n)
			wantError(t, "Bytes of "+what, e, api.ErrForm)
		}
		big := slices.Repeat([][]byte{nil}, 100)
		_, e := wantBytes(t, no, node.Node{Leaf: true, Keys: make([]string, 100), Vals: big})
		wantError(t, "Bytes of what may not be, and would not fit", e, api.ErrForm)
		for _, n := range []node.Node{sizedLeaf(93, 93, 59), sizedLeaf(93, 93, 93), many(true, 49), many(true, 200), sizedInner(47, 47, 47, 47, 41, 9), many(false, 31), many(false, 200)} {
			_, e := wantBytes(t, no, n)
			wantError(t, "Bytes of what does not fit", e, api.ErrRoom)
		}
	}
	for _, no := range wrongNumbers() {
		for _, n := range []node.Node{leaf(), leaf("a", "xy"), sizedLeaf(93, 93, 58), many(true, 48), inner([]int{0}), inner([]int{7, 7}, "a"), many(false, 30)} {
			_, e := wantBytes(t, no, n)
			wantError(t, "Bytes of no number", e, api.ErrInvalid)
		}
	}
}

func TestParse(t *testing.T) {
	for _, n := range rights() {
		if !node.Fits(n) {
			continue
		}
		for _, no := range []int{0, 7, 0x01020304, greatest} {
			p := pageByWords(no, n)
			for _, q := range [][]byte{p, sealed(p), with(p, 252, 1, 2, 3, 4)} {
				if got, e := wantParse(t, q); e != api.OK || !same(got, n) {
					t.Fatalf("Parse: %#v, error %d; not %#v", got, e, n)
				}
			}
		}
	}
}

func TestParseOfNoPage(t *testing.T) {
	p := pageByWords(7, leaf("a", "xy", "c", "z"))
	l := [][]byte{nil, {}, p[:1], p[:8], p[:22], p[:252], p[:255], append(slices.Clone(p), 0), append(slices.Clone(p), p...), make([]byte, 256), bytes.Repeat([]byte{255}, 256)}
	l = append(l, with(p, 0, 128), with(p, 5, 1), with(p, 5, 3), with(p, 5, 0), with(p, 6, 1), with(p, 7, p[7]+1), with(p, 7, p[7]-1), with(p, 8, 1), with(p, 9, 100), with(p, 22, 1), with(p, 251, 1), with(p, 4, 0))
	for _, b := range l {
		n, e := wantParse(t, b)
		if wantError(t, "Parse of no page", e, api.ErrForm); !same(n, node.Node{}) {
			t.Fatalf("Parse of no page: %#v", n)
		}
	}
	for n := range 600 {
		_, e := node.Parse(append(append(slices.Clone(p), p...), p...)[:n])
		if (e == api.OK) != (n == 256) || e != api.OK && e != api.ErrForm {
			t.Errorf("Parse of %d bytes: error %d", n, e)
		}
	}
}

// A page of each kind, with the cells of a leaf, of an inner node, and without.
func TestParseOfEachKind(t *testing.T) {
	for kind := range 256 {
		for i, n := range []node.Node{leaf("a", "xy"), inner([]int{4, 5, 6}, "g", "m"), leaf(), leaf("", "abc"), inner([]int{7})} {
			_, e := wantParse(t, aPage(7, byte(kind), cellsByWords(n)...))
			ok := kind == 5 && n.Leaf || kind == 6 && !n.Leaf || kind == 6 && i == 3 // 0 3 a b c: a Kid, too
			if ok != (e == api.OK) || !ok && e != api.ErrForm {
				t.Errorf("node %d, the kind %d: error %d", i, kind, e)
			}
		}
	}
}

func TestParseOfOtherCells(t *testing.T) {
	long := text(strings.Repeat("k", 40))
	leaves := map[string][]string{
		"a cell of no byte":           {""},
		"a last cell of no byte":      {"\x01a\x00", ""},
		"a Key alone":                 {"\x01a"},
		"a byte too few":              {"\x01a\x02x"},
		"a byte too many":             {"\x01a\x02xyz"},
		"a byte 0 too many":           {"\x01a\x01x\x00"},
		"a byte too many, at first":   {"\x01a\x01x\x00", "\x01b\x00"},
		"a Key's byte too few":        {"\x02a"},
		"a Key in two bytes":          {"\x81\x00a\x01x"},
		"a Val in two bytes":          {"\x01a\x81\x00x"},
		"an empty Key in two bytes":   {"\x80\x00\x01x"},
		"an empty Val in two bytes":   {"\x01a\x80\x00"},
		"a last Val in two bytes":     {"\x01a\x00", "\x01b\x81\x00x"},
		"a Val in three bytes":        {"\x01a\x81\x80\x00x"},
		"a length that does not end":  {"\x81"},
		"a Val's length that is open": {"\x01a\x81"},
		"a Key of 41 bytes":           {text(strings.Repeat("k", 41)) + "\x00"},
		"a Val of 50 bytes":           {"\x01a" + text(strings.Repeat("v", 50))},
		"a Key of 128 bytes":          {"\x80\x01" + strings.Repeat("k", 128) + "\x00"},
		"a Val of 128 bytes":          {"\x01a\x80\x01" + strings.Repeat("v", 128)},
		"a last Key of 41 bytes":      {long + "\x00", text(strings.Repeat("l", 41)) + "\x00"},
		"Keys that are the same":      {"\x01a\x01x", "\x01a\x01x"},
		"empty Keys":                  {"\x00\x01x", "\x00\x01y"},
		"Keys that fall":              {"\x01b\x00", "\x01a\x00"},
		"Keys that fall at the end":   {"\x01a\x00", "\x01c\x00", "\x01b\x00"},
		"Keys that fall from 128":     {"\x01\x80\x00", "\x01\x7f\x00"},
		"Keys that fall in length":    {"\x02ab\x00", "\x01a\x00"},
		"Keys that fall to none":      {"\x01a\x00", "\x00\x00"},
	}
	inners := map[string][]string{
		"none":                       {},
		"a cell of no byte":          {""},
		"a Key alone":                {"\x00"},
		"a byte too few":             {"\x00\x00\x00\x04"},
		"a byte too many":            {"\x00\x00\x00\x00\x04\x00"},
		"a last byte too few":        {"\x00\x00\x00\x00\x04", "\x01a\x00\x00\x04"},
		"a last byte too many":       {"\x00\x00\x00\x00\x04", "\x01a\x00\x00\x00\x04\x00"},
		"a first Key that is not":    {"\x01a\x00\x00\x00\x04"},
		"a first Key that is 0":      {"\x01\x00\x00\x00\x00\x04", "\x01a\x00\x00\x00\x04"},
		"a first Key in two bytes":   {"\x80\x00\x00\x00\x00\x04"},
		"a Key in two bytes":         {"\x00\x00\x00\x00\x04", "\x81\x00a\x00\x00\x00\x04"},
		"a Key of 41 bytes":          {"\x00\x00\x00\x00\x04", text(strings.Repeat("k", 41)) + "\x00\x00\x00\x04"},
		"a Kid of 2147483648":        {"\x00\x80\x00\x00\x00"},
		"a Kid of 4294967295":        {"\x00\xff\xff\xff\xff"},
		"a last Kid of 2147483648":   {"\x00\x00\x00\x00\x04", "\x01a\x80\x00\x00\x00"},
		"Keys that are the same":     {"\x00\x00\x00\x00\x04", "\x01a\x00\x00\x00\x04", "\x01a\x00\x00\x00\x05"},
		"empty Keys":                 {"\x00\x00\x00\x00\x04", "\x00\x00\x00\x00\x05"},
		"Keys that fall":             {"\x00\x00\x00\x00\x04", "\x01b\x00\x00\x00\x04", "\x01a\x00\x00\x00\x05"},
		"Keys that fall from 128":    {"\x00\x00\x00\x00\x04", "\x01\x80\x00\x00\x00\x04", "\x01\x7f\x00\x00\x00\x05"},
		"an empty Key at the end":    {"\x00\x00\x00\x00\x04", "\x01a\x00\x00\x00\x04", "\x00\x00\x00\x00\x05"},
		"a Text in a Kid's place":    {"\x00\x00\x00\x00\x04", "\x01a\x02xy"},
		"a Kid in five bytes":        {"\x00\x00\x00\x00\x00\x04"},
		"a Key's byte in two places": {"\x05\x00\x00\x00\x04"},
	}
	for kind, all := range map[byte]map[string][]string{5: leaves, 6: inners} {
		for what, cells := range all {
			n, e := wantParse(t, aPage(7, kind, cells...))
			if e != api.ErrForm || !same(n, node.Node{}) {
				t.Errorf("Parse of the kind %d, %s: %#v, error %d", kind, what, n, e)
			}
		}
	}
}

// Each byte of some nodes' pages is each number once.
func TestParseOfEachByte(t *testing.T) {
	for _, n := range []node.Node{leaf(), leaf("a", "xy", "ab", "", "b\x7f", "z"), inner([]int{4, greatest, 0}, "g", "gh"), sizedLeaf(93, 93, 58)} {
		p := pageByWords(0x01020304, n)
		for at := range p {
			for c := range 256 {
				q := with(p, at, byte(c))
				need, ok := parseByWords(q)
				got, e := node.Parse(q)
				if ok != (e == api.OK) || ok && !same(got, need) || !ok && (e != api.ErrForm || !same(got, node.Node{})) {
					t.Fatalf("Parse, the byte %d is %d: %#v, error %d; not %#v, %#v", at, c, got, e, need, ok)
				}
			}
		}
	}
}
