package snap_test

import (
	"testing"

	"berthmaster/api"
	"berthmaster/disk"
	"berthmaster/snap"
)

// refused fails the test unless each call of the checkpoint's that can have an error has that one, wrong arguments or not.
func refused(t *testing.T, s store, want api.Errno) {
	t.Helper()
	for _, n := range []int{0, 1, 65536, 65537, 1048560, 1048561, 1 << 21} {
		if number, e := s.Log(make([]byte, n)); number != 0 || e != want {
			t.Errorf("Log of %d bytes: %d, error %d, not %d", n, number, e, want)
		}
		if e := s.Save(make([]byte, n)); e != want {
			t.Errorf("Save of %d bytes: error %d, not %d", n, e, want)
		}
	}
	if e := s.Sync(); e != want {
		t.Errorf("Sync: error %d, not %d", e, want)
	}
}

// ended fails the test unless the checkpoint, whose disk went off, does nothing any more, even where the disk is on again.
func ended(t *testing.T, d *disk.Disk, s *snap.Store) {
	t.Helper()
	was := told(s)
	refused(t, s, api.ErrOff)
	if d.On() {
		t.Errorf("the checkpoint turned the disk on")
	}
	fine(t, d.Crash([]int{9999, 9999, 9999, 9999, 9999, 9999}))
	before := seen(d)
	refused(t, s, api.ErrOff)
	if seen(d) != before || told(s) != was {
		t.Errorf("a checkpoint at its end changed something:\n%s%snot\n%s%s", told(s), seen(d), was, before)
	}
	gone(t, d)
}

func TestNobodysStore(t *testing.T) {
	d, s := saving(t, 1<<20)
	copied := *s
	fine(t, d.Fuse(0))
	s.Sync()
	off := *s
	for _, s := range []*snap.Store{nil, {}, new(snap.Store), &copied, &off} {
		refused(t, s, api.ErrNil)
		if b, upto, there := s.Snapshot(); b != nil || upto != 0 || there {
			t.Errorf("Snapshot: %v, %d, %v", b, upto, there)
		}
		if s.Next() != 0 || len(s.Since()) != 0 {
			t.Errorf("next %d, %d records", s.Next(), len(s.Since()))
		}
	}
}

// TestOff has the disk go off by somebody else's step: the checkpoint's next call, whichever it is, is its end.
func TestOff(t *testing.T) {
	calls := []func(s *snap.Store) api.Errno{
		func(s *snap.Store) api.Errno { _, e := s.Log(nil); return e },
		func(s *snap.Store) api.Errno { _, e := s.Log(make([]byte, 65536)); return e },
		(*snap.Store).Sync,
		func(s *snap.Store) api.Errno { return s.Save(nil) },
		func(s *snap.Store) api.Errno { return s.Save(make([]byte, 1048560)) },
		func(s *snap.Store) api.Errno { return s.Save(make([]byte, 1048561)) },
	}
	for i, call := range calls {
		d, s := saving(t, 1<<22)
		gone(t, d)
		was := told(s)
		if e := call(s); e != api.ErrOff || told(s) != was {
			t.Errorf("call %d: error %d", i, e)
		}
		ended(t, d, s)
		// The end outlasts the power's.
		d, s = saving(t, 1<<22)
		gone(t, d)
		call(s)
		fine(t, d.Crash([]int{99, 99, 99, 99, 99}))
		refused(t, s, api.ErrOff)
		has(t, opened(t, d, "m"), []byte("A"), 2, mixed(4090, 1), mixed(5000, 2), []byte("d"))
		// Of a checkpoint without files: a Log's step and a Save's are needed, not a Sync's.
		d = fresh(t, 1<<22)
		s = opened(t, d, "m")
		gone(t, d)
		if e := call(s); e != api.ErrOff {
			t.Errorf("call %d of a checkpoint without files: error %d", i, e)
		}
		ended(t, d, s)
		has(t, s, nil, 1)
	}
}

// TestLogOff is too long for the journal, whose own limit is asked ahead of the power: that is no end.
func TestLogOff(t *testing.T) {
	d := fresh(t, 1<<20)
	s := opened(t, d, "m")
	gone(t, d)
	if n, e := s.Log(make([]byte, 65537)); n != 0 || e != api.ErrLong {
		t.Errorf("Log: %d, error %d", n, e)
	}
	fine(t, d.Crash(nil))
	logged(t, s, 1, []byte("a"))
}

// TestErrorsAreNoEnd makes calls that are refused for other reasons: the checkpoint goes on.
func TestErrorsAreNoEnd(t *testing.T) {
	d := fresh(t, 200)
	s := opened(t, d, "m")
	for i := range uint64(5) {
		if n, e := s.Log(make([]byte, 300)); n != 0 || e != api.ErrFull {
			t.Errorf("Log: %d, error %d", n, e)
		}
		if n, e := s.Log(make([]byte, 65537)); n != 0 || e != api.ErrLong {
			t.Errorf("Log: %d, error %d", n, e)
		}
		if s.Save(make([]byte, 300)) != api.ErrFull || s.Save(make([]byte, 1<<20)) != api.ErrLong {
			t.Errorf("not refused")
		}
		logged(t, s, i+1, []byte("x"))
		fine(t, s.Save([]byte("X")))
	}
	has(t, opened(t, d, "m"), []byte("X"), 6)
}
