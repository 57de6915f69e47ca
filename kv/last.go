package kv

import (
	"tabulary/api"
	"tabulary/codec"
	"tabulary/page"
)

// mostEpoch is the greatest epoch of a log, which is one more than the master's.
const mostEpoch = 1000000000

// write makes a group of the pages that the transaction changed, and of the root.
func (s *Store) write(changed []int) api.Errno {
	if len(s.used()) > s.shape.Frames-aside {
		return api.ErrFull
	}
	for _, no := range changed {
		p, e := s.pool.Get(no)
		if e != api.OK {
			return e
		}
		if p, e = page.Seal(p); e != api.OK {
			return e
		}
		if e := s.log.Append(p); e != api.OK {
			return e
		}
	}
	if e := s.log.Append(codec.PutFixed(nil, uint64(s.tree.Root()), numberBytes)); e != api.OK {
		return e
	}
	e := s.log.Commit()
	s.down = e != api.OK
	return e
}

// settle makes all that was committed lie in the pages, and the log begin anew: the master gets an epoch, and the log the next one. The master is saved behind the pages, as till then the log's groups are needed.
func (s *Store) settle() api.Errno {
	epoch, e := s.next()
	if e != api.OK {
		return e
	}
	e = s.save(epoch)
	s.down = e != api.OK
	return e
}

// save does what settle does, up to the first refusal.
func (s *Store) save(epoch int) api.Errno {
	taken := s.taken()
	if e := s.pool.Flush(); e != api.OK {
		return e
	}
	s.lying = taken
	if e := s.master.Save([]uint64{uint64(s.shape.Log), uint64(s.shape.Pages), uint64(s.root)}, epoch); e != api.OK {
		return e
	}
	return s.log.Begin(epoch + 1)
}

// next is the epoch behind the master's, which its log has, and which a checkpoint gives it. There is none, if its log would have none then.
func (s *Store) next() (int, api.Errno) {
	_, latest, _ := s.master.Latest()
	if latest+1 >= mostEpoch {
		return 0, api.ErrInvalid
	}
	return latest + 1, api.OK
}
