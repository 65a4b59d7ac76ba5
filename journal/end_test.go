package journal_test

import (
	"bytes"
	"slices"
	"testing"

	"berthmaster/api"
	"berthmaster/disk"
	"berthmaster/journal"
)

// refused fails the test unless each call of the journal's that can have an error has that one, wrong arguments or not.
func refused(t *testing.T, j log, want api.Errno) {
	t.Helper()
	for _, b := range [][]byte{nil, []byte("a"), make([]byte, 65536), make([]byte, 65537)} {
		if n, e := j.Append(b); n != 0 || e != want {
			t.Errorf("Append of %d bytes: %d, error %d, not %d", len(b), n, e, want)
		}
	}
	if e := j.Sync(); e != want {
		t.Errorf("Sync: error %d, not %d", e, want)
	}
	for _, n := range []uint64{0, 1, 2, 3, 11, 1000, 1 << 39, 1<<39 + 1, 1<<64 - 1} {
		if b, e := j.Read(n); len(b) != 0 || e != want {
			t.Errorf("Read(%d): %v, error %d, not %d", n, b, e, want)
		}
		if e := j.Drop(n); e != want {
			t.Errorf("Drop(%d): error %d, not %d", n, e, want)
		}
		if e := j.Restart(n); e != want {
			t.Errorf("Restart(%d): error %d, not %d", n, e, want)
		}
	}
}

// still fails the test unless the journal tells of these records, where nothing of it can have an error.
func still(t *testing.T, j log, first uint64, l ...[]byte) {
	t.Helper()
	next := first + uint64(len(l))
	if j.First() != first || j.Next() != next || !slices.EqualFunc(j.All(), l, bytes.Equal) {
		t.Errorf("from %d to %d: %d records, not from %d to %d", j.First(), j.Next(), len(j.All()), first, next)
	}
}

// ended fails the test unless the journal, whose disk went off, does nothing any more, even where the disk is on again.
func ended(t *testing.T, d *disk.Disk, j *journal.Journal, first uint64, l ...[]byte) {
	t.Helper()
	still(t, j, first, l...)
	refused(t, j, api.ErrOff)
	still(t, j, first, l...)
	if d.On() {
		t.Errorf("the journal turned the disk on")
	}
	fine(t, d.Crash([]int{9999, 9999, 9999, 9999}))
	before := seen(d)
	refused(t, j, api.ErrOff)
	still(t, j, first, l...)
	if seen(d) != before {
		t.Errorf("a journal at its end changed the disk:\n%s%s", before, seen(d))
	}
	gone(t, d)
}

func TestNobodysJournal(t *testing.T) {
	_, j, _ := four(t)
	copied := *j
	d, k, _ := four(t)
	fine(t, d.Fuse(0))
	k.Sync()
	off := *k
	for _, j := range []*journal.Journal{nil, {}, new(journal.Journal), &copied, &off} {
		refused(t, j, api.ErrNil)
		if j.First() != 0 || j.Next() != 0 || len(j.All()) != 0 {
			t.Errorf("from %d to %d, %d records", j.First(), j.Next(), len(j.All()))
		}
	}
}

// TestOff has the disk go off by somebody else's step: the journal's next call, whichever it is, is its end.
func TestOff(t *testing.T) {
	calls := []func(j *journal.Journal) api.Errno{
		func(j *journal.Journal) api.Errno { _, e := j.Append(nil); return e },
		func(j *journal.Journal) api.Errno { _, e := j.Append(make([]byte, 65536)); return e },
		(*journal.Journal).Sync,
		func(j *journal.Journal) api.Errno { _, e := j.Read(1); return e },
		func(j *journal.Journal) api.Errno { _, e := j.Read(0); return e },
		func(j *journal.Journal) api.Errno { _, e := j.Read(100); return e },
		func(j *journal.Journal) api.Errno { return j.Drop(0) },
		func(j *journal.Journal) api.Errno { return j.Drop(5) },
		func(j *journal.Journal) api.Errno { return j.Drop(100) },
		func(j *journal.Journal) api.Errno { return j.Restart(0) },
		func(j *journal.Journal) api.Errno { return j.Restart(5) },
		func(j *journal.Journal) api.Errno { return j.Restart(1 << 40) },
	}
	for i, call := range calls {
		d, j, l := four(t)
		gone(t, d)
		still(t, j, 1, l...)
		if e := call(j); e != api.ErrOff {
			t.Errorf("call %d: error %d", i, e)
		}
		ended(t, d, j, 1, l...)
		// Without segments and records.
		d = fresh(t, 1000)
		j = opened(t, d, "log")
		gone(t, d)
		if e := call(j); e != api.ErrOff {
			t.Errorf("call %d of a journal without segments: error %d", i, e)
		}
		ended(t, d, j, 1)
		// The end outlasts the power's.
		d, j, l = four(t)
		gone(t, d)
		call(j)
		fine(t, d.Crash([]int{99, 99, 99, 99}))
		refused(t, j, api.ErrOff)
		has(t, opened(t, d, "log"), 1, l...)
	}
}

// TestErrorsAreNoEnd makes calls that are refused for other reasons: the journal goes on.
func TestErrorsAreNoEnd(t *testing.T) {
	d := fresh(t, 200)
	j := opened(t, d, "log")
	for i := range uint64(5) {
		if _, e := j.Append(make([]byte, 300)); e != api.ErrFull {
			t.Errorf("Append: error %d", e)
		}
		if _, e := j.Append(make([]byte, 70000)); e != api.ErrLong {
			t.Errorf("Append: error %d", e)
		}
		if _, e := j.Read(9); e != api.ErrNone {
			t.Errorf("Read: error %d", e)
		}
		if j.Drop(9) != api.ErrArg || j.Restart(0) != api.ErrArg {
			t.Errorf("not refused")
		}
		appended(t, j, i+1, []byte("x"))
	}
}
