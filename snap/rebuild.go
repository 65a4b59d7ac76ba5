package snap

import (
	"slices"

	"berthmaster/api"
	"berthmaster/frame"
	"berthmaster/journal"
	"berthmaster/wire"
)

// rebuild recovers the checkpoint from its files.
func (s *Store) rebuild() api.Errno {
	files := s.disk.Names()
	if e := s.choose(files); e != api.OK {
		return e
	}
	if e := s.clean(files); e != api.OK {
		return e
	}
	return s.goOn()
}

// choose takes the snapshot with the highest number that is whole; as the files' names rise, so do the numbers.
func (s *Store) choose(files []string) api.Errno {
	for _, file := range slices.Backward(files) {
		number, is := s.number(file)
		if !is {
			continue
		}
		b, e := s.disk.Read(file)
		if e != api.OK {
			return e
		}
		if found := unframed(b); found.there && found.upto == number {
			s.snapshot = found
			return api.OK
		}
	}
	return api.OK
}

// clean removes the files of other snapshots, and what is left of one that was not saved to its end.
func (s *Store) clean(files []string) api.Errno {
	for _, file := range files {
		number, is := s.number(file)
		kept := s.snapshot.there && number == s.snapshot.upto
		if file != s.half() && (!is || kept) {
			continue
		}
		if e := s.disk.Remove(file); e != api.OK {
			return e
		}
	}
	return api.OK
}

// goOn opens the journal; if its records don't go on where the snapshot ends, they are of no use.
func (s *Store) goOn() api.Errno {
	j, e := journal.Open(s.disk, s.name)
	if e != api.OK {
		return e
	}
	s.journal = j
	if upto := s.snapshot.upto; j.First() > upto || j.Next() < upto {
		return j.Restart(upto)
	}
	return api.OK
}

// framed answers the bytes of the snapshot's file.
func (s snapshot) framed() ([]byte, api.Errno) {
	body := append(wire.AppendUint(nil, s.upto), s.bytes...)
	return frame.Append(nil, api.Frame{Kind: api.KindSnap, Body: body})
}

// unframed answers the snapshot whose file has just these bytes: none, if no such one has.
func unframed(b []byte) snapshot {
	f, n, e := frame.Read(b)
	if e != api.OK || n != len(b) || f.Kind != api.KindSnap {
		return snapshot{}
	}
	upto, size, e := wire.ReadUint(f.Body)
	if e != api.OK {
		return snapshot{}
	}
	return snapshot{there: true, upto: upto, bytes: f.Body[size:]}
}
