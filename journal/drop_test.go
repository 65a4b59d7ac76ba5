package journal_test

import (
	"slices"
	"testing"

	"berthmaster/api"
	"berthmaster/disk"
	"berthmaster/journal"
)

// four answers a journal with segments from 1, 3, 4 and 7 on, the records being ten in all, and those records.
func four(t *testing.T) (*disk.Disk, *journal.Journal, [][]byte) {
	t.Helper()
	d := fresh(t, 1<<20)
	j := opened(t, d, "log")
	var l [][]byte
	for i, n := range []int{10, 4090, 5000, 2000, 2000, 2000, 1, 2, 3, 4} {
		l = append(l, mixed(n, i))
	}
	appended(t, j, 1, l...)
	files(t, d, "log-000000000001", "log-000000000003", "log-000000000004", "log-000000000007")
	return d, j, l
}

func TestDrop(t *testing.T) {
	for n := range uint64(12) {
		d, j, l := four(t)
		names, steps := d.Names(), d.Steps()
		gone, first := 0, uint64(1)
		switch {
		case n >= 7:
			gone, first = 3, 7
		case n >= 4:
			gone, first = 2, 4
		case n >= 3:
			gone, first = 1, 3
		}
		fine(t, j.Drop(n))
		has(t, j, first, l[first-1:]...)
		files(t, d, names[gone:]...)
		if d.Steps() != steps+gone {
			t.Errorf("Drop(%d): %d steps, not %d", n, d.Steps()-steps, gone)
		}
		has(t, opened(t, d, "log"), first, l[first-1:]...)
		// Once more it is nothing.
		fine(t, j.Drop(n), j.Drop(0), j.Drop(first))
		if d.Steps() != steps+gone {
			t.Errorf("Drop(%d) again: %d steps", n, d.Steps()-steps)
		}
		appended(t, j, 11, []byte("on"))
		has(t, j, first, append(l[first-1:], []byte("on"))...)
	}
}

func TestDropAboveNext(t *testing.T) {
	d, j, l := four(t)
	before := seen(d)
	for _, n := range []uint64{12, 13, 1 << 39, 1<<64 - 1} {
		if e := j.Drop(n); e != api.ErrArg {
			t.Errorf("Drop(%d): error %d", n, e)
		}
	}
	has(t, j, 1, l...)
	if seen(d) != before {
		t.Errorf("Drop, refused, changed the disk:\n%s%s", before, seen(d))
	}
	// Without segments.
	j = opened(t, fresh(t, 100), "log")
	fine(t, j.Drop(0), j.Drop(1))
	if e := j.Drop(2); e != api.ErrArg {
		t.Errorf("Drop(2): error %d", e)
	}
	fine(t, j.Restart(40), j.Drop(40), j.Drop(3))
	if e := j.Drop(41); e != api.ErrArg {
		t.Errorf("Drop(41): error %d", e)
	}
	has(t, j, 40)
}

// TestDropLast drops all that may be: the last segment stays, whatever it has.
func TestDropLast(t *testing.T) {
	d := fresh(t, 1<<20)
	j := opened(t, d, "log")
	appended(t, j, 1, mixed(5000, 1))
	fine(t, j.Drop(2))
	has(t, j, 1, mixed(5000, 1))
	appended(t, j, 2, mixed(5000, 2))
	fine(t, j.Drop(1))
	has(t, j, 1, mixed(5000, 1), mixed(5000, 2))
	fine(t, j.Drop(3))
	has(t, j, 2, mixed(5000, 2))
	files(t, d, "log-000000000002")
}

// TestDropFuse has the disk go off within Drop: the segments that were removed are gone, with their records, the lowest first.
func TestDropFuse(t *testing.T) {
	for fuse, first := range []uint64{1, 3, 4} {
		d, j, l := four(t)
		names := d.Names()
		fine(t, j.Sync(), d.Fuse(fuse))
		if e := j.Drop(11); e != api.ErrOff || d.On() {
			t.Errorf("a fuse of %d: error %d", fuse, e)
		}
		ended(t, d, j, first, l[first-1:]...)
		fine(t, d.Crash(nil))
		files(t, d, names[fuse:]...)
		has(t, opened(t, d, "log"), first, l[first-1:]...)
	}
	d, j, l := four(t)
	fine(t, d.Fuse(3), j.Drop(11))
	has(t, j, 7, l[6:]...)
}

func TestRestart(t *testing.T) {
	for _, n := range []uint64{1, 2, 7, 11, 12, 1000, 1 << 31, 1<<39 - 1, 1 << 39} {
		d, j, _ := four(t)
		steps := d.Steps()
		fine(t, j.Restart(n))
		has(t, j, n)
		files(t, d)
		if d.Steps() != steps+4 {
			t.Errorf("Restart(%d): %d steps", n, d.Steps()-steps)
		}
		// Nothing on the disk tells it.
		has(t, opened(t, d, "log"), 1)
		appended(t, j, n, []byte("new"), mixed(5000, 1), []byte("on"))
		files(t, d, segment("log", n), segment("log", n+2))
		has(t, j, n, []byte("new"), mixed(5000, 1), []byte("on"))
		has(t, opened(t, d, "log"), n, []byte("new"), mixed(5000, 1), []byte("on"))
		fine(t, j.Restart(3), j.Restart(n))
		has(t, j, n)
	}
}

func TestRestartArgument(t *testing.T) {
	d, j, l := four(t)
	before := seen(d)
	for _, n := range []uint64{0, 1<<39 + 1, 1 << 40, 999999999999, 1 << 62, 1<<64 - 1} {
		if e := j.Restart(n); e != api.ErrArg {
			t.Errorf("Restart(%d): error %d", n, e)
		}
	}
	has(t, j, 1, l...)
	if seen(d) != before {
		t.Errorf("Restart, refused, changed the disk:\n%s%s", before, seen(d))
	}
}

// TestRestartFuse has the disk go off within Restart: the segments that were removed are gone, with their records, the highest first.
func TestRestartFuse(t *testing.T) {
	for fuse, next := range []uint64{11, 7, 4, 3} {
		d, j, l := four(t)
		names := d.Names()
		fine(t, j.Sync(), d.Fuse(fuse))
		if e := j.Restart(100); e != api.ErrOff || d.On() {
			t.Errorf("a fuse of %d: error %d", fuse, e)
		}
		ended(t, d, j, 1, l[:next-1]...)
		fine(t, d.Crash(nil))
		files(t, d, names[:4-fuse]...)
		has(t, opened(t, d, "log"), 1, l[:next-1]...)
	}
	d, j, _ := four(t)
	fine(t, d.Fuse(4), j.Restart(100))
	has(t, j, 100)
	// Without segments it is no step.
	j = opened(t, fresh(t, 100), "log")
	fine(t, j.Restart(9))
	has(t, j, 9)
}

// TestRestartDisksError has a segment gone: those behind it are removed, and the journal goes on there.
func TestRestartDisksError(t *testing.T) {
	d, j, l := four(t)
	fine(t, d.Remove("log-000000000004"))
	if e := j.Restart(100); e != api.ErrNone {
		t.Errorf("Restart: error %d", e)
	}
	has(t, j, 1, l[:6]...)
	if e := j.Drop(1 << 30); e != api.ErrArg {
		t.Errorf("Drop: error %d", e)
	}
	fine(t, d.Make("log-000000000004"), j.Restart(100))
	has(t, j, 100)
	d, j, l = four(t)
	fine(t, d.Remove("log-000000000003"))
	if e := j.Drop(9); e != api.ErrNone {
		t.Errorf("Drop: error %d", e)
	}
	has(t, j, 3, l[2:]...)
	if !slices.Equal(d.Names(), []string{"log-000000000004", "log-000000000007"}) {
		t.Errorf("files %q", d.Names())
	}
}
