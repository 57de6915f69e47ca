package kv

import (
	"tabulary/api"
	"tabulary/codec"
	"tabulary/disk"
	"tabulary/master"
	"tabulary/page"
	"tabulary/pool"
	"tabulary/space"
	"tabulary/tree"
	"tabulary/wal"
)

// numberBytes is how many bytes a page's number takes: at the beginning of a page, and as the root in the log.
const numberBytes = 4

// fields is how many numbers the master has: how many sectors the log has, how many pages there are, and the root.
const fields = 3

// standing is the shape of the store that a master tells of, and its root; false: it tells of none.
func standing(m *master.Master, frames int) (g Shape, root int, ok bool) {
	l, _, _ := m.Latest()
	if len(l) != fields || l[0] > mostLog || l[1] > api.MaxSectors {
		return Shape{}, 0, false
	}
	g = Shape{Log: int(l[0]), Pages: int(l[1]), Frames: frames}
	return g, int(l[2]), g.mayBe()
}

// over is a store of a shape over what lies on a disk: its log, of the epoch behind the master's, and its pages.
func over(d *disk.Disk, m *master.Master, g Shape) (*Store, api.Errno) {
	s := &Store{shape: g, master: m}
	epoch, e := s.next()
	if e != api.OK {
		return nil, e
	}
	if s.log, e = wal.Open(d, masterSectors, g.Log, epoch); e != api.OK {
		return nil, e
	}
	if s.pool, e = pool.Open(d, masterSectors+g.Log, g.Pages, g.Frames); e != api.OK {
		return nil, e
	}
	return s, api.OK
}

// wipe writes bytes 0 to all sectors of the log: where no master stands, what stood there may be of the very epoch that is begun.
func wipe(d *disk.Disk, count int) api.Errno {
	for i := range count {
		if e := d.Write(masterSectors+i, make([]byte, api.Sector)); e != api.OK {
			return e
		}
	}
	return api.OK
}

// makeNew makes the space, and a tree without a key, and makes them last.
func (s *Store) makeNew() (e api.Errno) {
	if s.space, e = space.Format(s.pool); e != api.OK {
		return e
	}
	if s.tree, e = tree.New(s.space); e != api.OK {
		return e
	}
	s.root = s.tree.Root()
	return s.start()
}

// makeGood makes good what was committed since the last checkpoint, whose root is handed in. No page is read ahead of those that the log has: what lies on the disk of these may be torn.
func (s *Store) makeGood(root int) (e api.Errno) {
	if s.root, e = s.redo(root); e != api.OK {
		return e
	}
	if s.space, e = space.Open(s.pool); e != api.OK {
		return e
	}
	if s.tree, e = tree.Open(s.space, s.root); e != api.OK {
		return e
	}
	return s.start()
}

// start makes what the pool has last, behind which the store may be used.
func (s *Store) start() api.Errno {
	s.pool.Accept()
	s.lying = make([]int, s.space.Maps())
	for k := range s.lying {
		n, e := s.count(k)
		if e != api.OK {
			return e
		}
		s.lying[k] = n
	}
	return s.settle()
}

// redo puts the pages of all groups that stand in the log, and tells the last root there; the one that is handed in, if there is no group.
func (s *Store) redo(root int) (int, api.Errno) {
	for _, group := range s.log.Groups() {
		last := len(group) - 1 // a group that stands has a record at least
		for _, b := range group[:last] {
			if e := s.redoPage(b); e != api.OK {
				return 0, e
			}
		}
		r := codec.Read(group[last])
		root = int(r.Fixed(numberBytes))
		if r.End() != api.OK {
			return 0, api.ErrForm
		}
	}
	if len(s.pool.Fresh()) > s.shape.Frames-aside {
		return 0, api.ErrBusy
	}
	return root, api.OK
}

// redoPage puts a page of the log.
func (s *Store) redoPage(b []byte) api.Errno {
	no := int(codec.Read(b).Fixed(numberBytes))
	p, e := page.Open(b, no)
	if e != api.OK {
		return e
	}
	return s.pool.Put(no, p)
}
