package kv_test

import (
	"bytes"
	"hash/crc32"
	"maps"
	"slices"
	"strings"
	"testing"

	"tabulary/api"
	"tabulary/disk"
	"tabulary/kv"
)

// four is a number in four bytes, the highest first.
func four(n int) string { return string([]byte{byte(n >> 24), byte(n >> 16), byte(n >> 8), byte(n)}) }

// uintByWords is chapter 3's words: groups of 7 bits, the lowest first.
func uintByWords(n uint64) string {
	var b []byte
	for n >= 128 {
		b = append(b, byte(n%128+128))
		n /= 128
	}
	return string(append(b, byte(n)))
}

// sumOf is a sum in four bytes, the lowest first.
func sumOf(b []byte) []byte {
	s := crc32.ChecksumIEEE(b)
	return []byte{byte(s), byte(s >> 8), byte(s >> 16), byte(s >> 24)}
}

// stamped is chapter 7's words, byte by byte.
func stamped(mark uint64, kind byte, body string) []byte {
	var eight []byte
	for i := 7; i >= 0; i-- {
		eight = append(eight, byte(mark>>(8*i)))
	}
	b := append(slices.Clone(eight), kind, byte(len(body)))
	b = append(b, body...)
	b = append(b, make([]byte, 244-len(b))...)
	return slices.Concat(b, sumOf(b), eight)
}

// aMaster is chapter 10's words: a slot with such fields.
func aMaster(epoch int, fields ...uint64) []byte {
	body := uintByWords(uint64(len(fields)))
	for _, f := range fields {
		body += uintByWords(f)
	}
	return stamped(uint64(epoch), 3, body)
}

// aGroup is chapter 8's words: the sectors of a group of records, from the i-th one of the log on.
func aGroup(epoch, i int, records ...[]byte) [][]byte {
	all := uintByWords(uint64(len(records)))
	for _, r := range records {
		all += uintByWords(uint64(len(r))) + string(r)
	}
	all = four(len(all)) + all
	var l [][]byte
	for kind := byte(1); all != ""; kind = 2 {
		n := min(len(all), 233)
		l = append(l, stamped(uint64(epoch)<<24+uint64(i+len(l)+1), kind, all[:n]))
		all = all[n:]
	}
	return l
}

// sectorsOf is how many sectors a group of so many pages and the root has.
func sectorsOf(pages int) int {
	var l [][]byte
	for range pages {
		l = append(l, make([]byte, 256))
	}
	return len(aGroup(1, 0, append(l, make([]byte, 4))...))
}

// aPage is chapter 9's words: a page that is sealed.
func aPage(no int, kind byte, cells ...string) []byte {
	b := append([]byte(four(no)), kind, byte(len(cells)))
	all := strings.Join(cells, "")
	b = append(b, byte(len(all)>>8), byte(len(all)))
	end := 0
	for _, c := range cells {
		end += len(c)
		b = append(b, byte(end>>8), byte(end))
	}
	b = append(b, all...)
	b = append(b, make([]byte, 252-len(b))...)
	return append(b, sumOf(b)...)
}

// aMap is chapter 12's words: the k-th map of so many pages, of which some are taken.
func aMap(k, pages int, taken ...int) []byte {
	cell := make([]byte, (min(pages-1920*k, 1920)+7)/8)
	for _, no := range taken {
		if no/1920 == k {
			cell[no%1920/8] |= 1 << (no % 8)
		}
	}
	return aPage(k, 2, string(cell))
}

// aLeaf is a leaf of keys and short bodies.
func aLeaf(no int, pairs ...string) []byte {
	var cells []string
	for i := 0; i < len(pairs); i += 2 {
		k, b := pairs[i], pairs[i+1]
		cells = append(cells, string([]byte{byte(len(k))})+k+string([]byte{byte(len(b) + 1), 0})+b)
	}
	return aPage(no, 5, cells...)
}

// laid is a disk of n sectors, with some that are laid by hand.
func laid(t *testing.T, n int, sectors map[int][]byte) *disk.Disk {
	t.Helper()
	d := newDisk(t, n)
	for i, s := range sectors {
		if e := d.Write(i, s); e != api.OK {
			t.Fatalf("Write of %d: error %d", i, e)
		}
	}
	d.Sync()
	return d
}

func newDisk(t *testing.T, n int) *disk.Disk {
	t.Helper()
	d, e := disk.New(n)
	if e != api.OK {
		t.Fatalf("New(%d): error %d", n, e)
	}
	return d
}

// plan is what is laid on a disk for a store: the shape, the pages, and the master's root and epoch.
type plan struct {
	shape       kv.Shape
	pages       map[int][]byte
	root, epoch int
	groups      [][][]byte
}

// simple is a store with a key, whose leaf is the page 1.
func simple(pages int) plan {
	return plan{shape: kv.Shape{Log: 60, Pages: pages, Frames: 16}, root: 1, epoch: 5, pages: map[int][]byte{
		0: aMap(0, pages, 0, 1),
		1: aLeaf(1, "k", "v"),
	}}
}

// lay is the disk on which it lies.
func (p plan) lay(t *testing.T) *disk.Disk {
	t.Helper()
	l := map[int][]byte{1: aMaster(p.epoch, uint64(p.shape.Log), uint64(p.shape.Pages), uint64(p.root))}
	at := 0
	for _, g := range p.groups {
		for _, s := range aGroup(p.epoch+1, at, g...) {
			l[2+at] = s
			at++
		}
	}
	for no, b := range p.pages {
		l[2+p.shape.Log+no] = b
	}
	return laid(t, kv.Sectors(p.shape), l)
}

// some are bytes, of which no two sizes begin alike.
func some(n int) string {
	b := make([]byte, n)
	for i := range b {
		b[i] = byte(i*7+i/250+n) | 1
	}
	return string(b)
}

// blobOf is a body that takes so many pages, beside those of nodes and maps.
func blobOf(pages int) string { return some(234 + 238*(pages-1)) }

// long is a key of 40 bytes.
func long(s string) string { return s + strings.Repeat("~", 40-len(s)) }

func want(t *testing.T, call string, e, need api.Errno) {
	t.Helper()
	if e != need {
		t.Fatalf("%s: error %d, not %d", call, e, need)
	}
}

// format is a store on a disk that is just as large.
func format(t *testing.T, g kv.Shape) (*kv.Store, *disk.Disk) {
	t.Helper()
	d := newDisk(t, kv.Sectors(g))
	s, e := kv.Format(d, g)
	if e != api.OK || s == nil {
		t.Fatalf("Format: error %d", e)
	}
	return s, d
}

func open(t *testing.T, d *disk.Disk, frames int) *kv.Store {
	t.Helper()
	s, e := kv.Open(d, frames)
	if e != api.OK || s == nil {
		t.Fatalf("Open: error %d", e)
	}
	return s
}

func wantNoFormat(t *testing.T, d *disk.Disk, g kv.Shape, need api.Errno) {
	t.Helper()
	if s, e := kv.Format(d, g); e != need || s != nil {
		t.Fatalf("Format(%v): %v, error %d, not %d", g, s, e, need)
	}
}

func wantNoStore(t *testing.T, d *disk.Disk, frames int, need api.Errno) {
	t.Helper()
	if s, e := kv.Open(d, frames); e != need || s != nil {
		t.Fatalf("Open with %d frames: %v, error %d, not %d", frames, s, e, need)
	}
}

// lost is the disk behind a loss of power with nothing kept.
func lost(t *testing.T, d *disk.Disk) *disk.Disk {
	t.Helper()
	x, e := d.Lose(api.Loss{Torn: -1})
	if e != api.OK {
		t.Fatalf("Lose: error %d", e)
	}
	return x
}

// image is what the sectors of a disk have.
func image(t *testing.T, d *disk.Disk) [][]byte {
	t.Helper()
	x, e := d.Lose(api.Loss{Torn: -1, Kept: slices.Repeat([]bool{true}, len(d.Pending()))}) // its power is on
	if e != api.OK {
		t.Fatalf("Lose: error %d", e)
	}
	var l [][]byte
	for i := range x.Size() {
		s, _ := x.Read(i)
		l = append(l, s)
	}
	return l
}

// wantDisk asks what all sectors have; those that are not handed in are of bytes 0.
func wantDisk(t *testing.T, d *disk.Disk, need map[int][]byte) {
	t.Helper()
	for i, s := range image(t, d) {
		n, ok := need[i]
		if !ok {
			n = make([]byte, 256)
		}
		if !bytes.Equal(s, n) {
			t.Fatalf("sector %d:\n%v, not\n%v", i, s, n)
		}
	}
}

// put puts, one behind the other, keys and bodies.
func put(t *testing.T, s *kv.Store, pairs ...string) {
	t.Helper()
	for i := 0; i < len(pairs); i += 2 {
		wantPut(t, s, pairs[i], pairs[i+1], api.OK)
	}
}

func wantPut(t *testing.T, s *kv.Store, key, body string, need api.Errno) {
	t.Helper()
	if e := s.Put(key, []byte(body)); e != need {
		t.Fatalf("Put(%q) of %d bytes: error %d, not %d", key, len(body), e, need)
	}
}

// commit is a transaction of Puts.
func commit(t *testing.T, s *kv.Store, pairs ...string) {
	t.Helper()
	want(t, "Begin", s.Begin(), api.OK)
	put(t, s, pairs...)
	want(t, "Commit", s.Commit(), api.OK)
}

func wantGet(t *testing.T, s *kv.Store, key, need string) {
	t.Helper()
	if b, e := s.Get(key); e != api.OK || string(b) != need {
		t.Fatalf("Get(%q): %d bytes, error %d, not %d bytes", key, len(b), e, len(need))
	}
}

func wantNoGet(t *testing.T, s *kv.Store, key string, need api.Errno) {
	t.Helper()
	if b, e := s.Get(key); e != need || len(b) != 0 {
		t.Fatalf("Get(%q): %v, error %d, not %d", key, b, e, need)
	}
}

func wantNoScan(t *testing.T, s *kv.Store, from, to string, most int, need api.Errno) {
	t.Helper()
	if l, e := s.Scan(from, to, most); e != need || len(l) != 0 {
		t.Fatalf("Scan(%q, %q, %d): %v, error %d, not %d", from, to, most, l, e, need)
	}
}

func wantNoCheck(t *testing.T, s *kv.Store, need api.Errno) {
	t.Helper()
	if n, e := s.Check(); e != need || n != 0 {
		t.Fatalf("Check: %d, error %d, not %d", n, e, need)
	}
}

func wantRunning(t *testing.T, s *kv.Store, need bool) {
	t.Helper()
	if s.Running() != need {
		t.Fatalf("Running: not %v", need)
	}
}

// wantScan asks for the first most of the pairs of a stretch.
func wantScan(t *testing.T, s *kv.Store, from, to string, most int, all map[string]string) {
	t.Helper()
	var need []string
	for _, k := range slices.Sorted(maps.Keys(all)) {
		if k >= from && (to == "" || k < to) && len(need) < most {
			need = append(need, k)
		}
	}
	l, e := s.Scan(from, to, most)
	if e != api.OK || len(l) != len(need) {
		t.Fatalf("Scan(%q, %q, %d): %d pairs, error %d, not %d", from, to, most, len(l), e, len(need))
	}
	for i, k := range need {
		if l[i].Key != k || string(l[i].Body) != all[k] {
			t.Fatalf("Scan(%q, %q, %d): %q at %d, not %q", from, to, most, l[i].Key, i, k)
		}
	}
}

// wantMap asks that a store has such pairs, and no others.
func wantMap(t *testing.T, s *kv.Store, need map[string]string) {
	t.Helper()
	wantScan(t, s, "", "", len(need)+1, need)
	if n, e := s.Check(); e != api.OK || n != len(need) {
		t.Fatalf("Check: %d, error %d, not %d", n, e, len(need))
	}
	for k, b := range need {
		wantGet(t, s, k, b)
		if _, ok := need[k+"."]; !ok && len(k) < 40 {
			wantNoGet(t, s, k+".", api.ErrNone)
		}
	}
}

// mapOf is a map of keys and bodies.
func mapOf(pairs ...string) map[string]string {
	m := map[string]string{}
	for i := 0; i < len(pairs); i += 2 {
		m[pairs[i]] = pairs[i+1]
	}
	return m
}

// room is what Room tells.
type room struct{ pages, sectors, frames int }

func roomOf(s *kv.Store) room {
	p, l, f := s.Room()
	return room{p, l, f}
}

func wantRoom(t *testing.T, s *kv.Store, need room) {
	t.Helper()
	if r := roomOf(s); r != need {
		t.Fatalf("Room: %v, not %v", r, need)
	}
}
