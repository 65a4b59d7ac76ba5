package journal_test

import (
	"bytes"
	"slices"
	"testing"

	"berthmaster/api"
)

// TestAppendSizes appends records of many sizes: each is a frame of its own, of the kind of records.
func TestAppendSizes(t *testing.T) {
	for _, n := range []int{0, 1, 2, 51, 52, 53, 115, 116, 117, 4083, 4084, 4085, 65535, 65536} {
		d := fresh(t, 1<<20)
		j := opened(t, d, "log")
		appended(t, j, 1, mixed(n, n))
		has(t, j, 1, mixed(n, n))
		contains(t, d, "log-000000000001", framed(1, mixed(n, n)), 0)
		// A making, and a write for each 64 bytes.
		if want := 1 + (n+12+63)/64; d.Steps() != want {
			t.Errorf("%d bytes: %d steps, not %d", n, d.Steps(), want)
		}
		has(t, opened(t, d, "log"), 1, mixed(n, n))
	}
}

func TestAppendLong(t *testing.T) {
	d := fresh(t, 1<<20)
	j := opened(t, d, "log")
	for range 2 {
		before, was := seen(d), told(j)
		for _, n := range []int{65537, 65538, 1 << 17, 1 << 20, 1<<20 + 1} {
			if number, e := j.Append(make([]byte, n)); number != 0 || e != api.ErrLong {
				t.Errorf("Append of %d bytes: %d, error %d", n, number, e)
			}
		}
		if seen(d) != before || told(j) != was {
			t.Errorf("Append, refused, changed something:\n%s%snot\n%s%s", told(j), seen(d), was, before)
		}
		appended(t, j, j.Next(), make([]byte, 5000))
	}
	// A journal's own limit is asked ahead of the power.
	d = gone(t, fresh(t, 1000))
	fine(t, d.Crash(nil))
	j = opened(t, d, "log")
	gone(t, d)
	if _, e := j.Append(make([]byte, 65537)); e != api.ErrLong {
		t.Errorf("too long, off: error %d", e)
	}
	fine(t, d.Crash(nil))
	appended(t, j, 1, []byte("it has not come to its end"))
}

// TestSegments fills a segment up to so many bytes: from 4,096 on another one is begun.
func TestSegments(t *testing.T) {
	for size := 4000; size < 4200; size++ {
		d := fresh(t, 1<<20)
		j := opened(t, d, "log")
		first := [][]byte{[]byte("a"), mixed(300, 1)}
		rest := size - 13 - 312 - 12
		appended(t, j, 1, append(first, mixed(rest, 2))...)
		if b, _ := d.Read("log-000000000001"); len(b) != size {
			t.Fatalf("%d bytes, not %d", len(b), size)
		}
		steps := d.Steps()
		appended(t, j, 4, []byte("behind"))
		all := slices.Concat(framed(1, first[0]), framed(1, first[1]), framed(1, mixed(rest, 2)))
		if size < 4096 {
			files(t, d, "log-000000000001")
			contains(t, d, "log-000000000001", append(all, framed(1, []byte("behind"))...), 0)
			if d.Steps() != steps+1 {
				t.Errorf("%d bytes: %d steps, not a write", size, d.Steps()-steps)
			}
		} else {
			files(t, d, "log-000000000001", "log-000000000004")
			contains(t, d, "log-000000000001", all, size)
			contains(t, d, "log-000000000004", framed(1, []byte("behind")), 0)
			if d.Steps() != steps+3 {
				t.Errorf("%d bytes: %d steps, not a sync, a making, a write", size, d.Steps()-steps)
			}
		}
		has(t, j, 1, first[0], first[1], mixed(rest, 2), []byte("behind"))
		has(t, opened(t, d, "log"), 1, first[0], first[1], mixed(rest, 2), []byte("behind"))
	}
}

// TestSegmentsOpened fills a segment, and opens the journal anew ahead of the record that begins another one.
func TestSegmentsOpened(t *testing.T) {
	for _, c := range []struct {
		size  int
		torn  []byte
		files []string
	}{
		{4095, nil, []string{"log-000000000008"}},
		{4096, nil, []string{"log-000000000008", "log-000000000010"}},
		{4097, nil, []string{"log-000000000008", "log-000000000010"}},
		{4095, []byte{1}, []string{"log-000000000008"}},
		{4096, []byte{1}, []string{"log-000000000008", "log-000000000010"}},
		{3000, mixed(3000, 1), []string{"log-000000000008"}},
	} {
		d := fresh(t, 1<<20)
		laid(t, d, "log-000000000008", framed(1, mixed(100, 1)), framed(1, mixed(c.size-124, 2)), c.torn)
		j := opened(t, d, "log")
		appended(t, j, 10, []byte("behind"))
		files(t, d, c.files...)
		has(t, j, 8, mixed(100, 1), mixed(c.size-124, 2), []byte("behind"))
	}
}

// TestManySegments appends many records: the segments' names, their bytes, what of them is synced.
func TestManySegments(t *testing.T) {
	d := fresh(t, 1<<24)
	j := opened(t, d, "journal")
	var want [][]byte
	parts := map[string][]byte{}
	at, name := uint64(1), ""
	for i := range 3000 {
		b := mixed(i*i%977, i)
		if name == "" || len(parts[name]) >= 4096 {
			name = segment("journal", at)
		}
		parts[name] = append(parts[name], framed(1, b)...)
		appended(t, j, at, b)
		want = append(want, b)
		at++
	}
	if len(d.Names()) != len(parts) || len(parts) < 300 {
		t.Fatalf("%d files, not %d", len(d.Names()), len(parts))
	}
	for file, b := range parts {
		synced := len(b)
		if file == name {
			synced = 0
		}
		contains(t, d, file, b, synced)
	}
	has(t, j, 1, want...)
	has(t, opened(t, d, "journal"), 1, want...)
}

// TestAppendFull appends where there is no room: nothing of the record is written.
func TestAppendFull(t *testing.T) {
	d := fresh(t, 100)
	j := opened(t, d, "log")
	// A segment that was made for it stays.
	if n, e := j.Append(make([]byte, 89)); n != 0 || e != api.ErrFull || d.Steps() != 1 {
		t.Errorf("Append: %d, error %d, %d steps", n, e, d.Steps())
	}
	files(t, d, "log-000000000001")
	contains(t, d, "log-000000000001", nil, 0)
	has(t, j, 1)
	has(t, opened(t, d, "log"), 1)
	before := seen(d)
	if n, e := j.Append(make([]byte, 89)); n != 0 || e != api.ErrFull || seen(d) != before {
		t.Errorf("Append again: %d, error %d\n%s", n, e, seen(d))
	}
	// Just what is left.
	appended(t, j, 1, mixed(60, 1), mixed(16, 2))
	before = seen(d)
	for _, n := range []int{0, 1, 60, 65536} {
		if number, e := j.Append(make([]byte, n)); number != 0 || e != api.ErrFull || seen(d) != before {
			t.Errorf("Append of %d bytes: %d, error %d\n%s", n, number, e, seen(d))
		}
	}
	fine(t, j.Sync())
	has(t, j, 1, mixed(60, 1), mixed(16, 2))
	has(t, opened(t, d, "log"), 1, mixed(60, 1), mixed(16, 2))
}

// TestAppendFullSegment has no room left for a record that begins another segment.
func TestAppendFullSegment(t *testing.T) {
	d := fresh(t, 5030)
	j := opened(t, d, "log")
	appended(t, j, 1, mixed(4988, 1))
	before := d.Steps()
	if n, e := j.Append(make([]byte, 19)); n != 0 || e != api.ErrFull || d.Steps() != before+2 {
		t.Errorf("Append: %d, error %d, %d steps", n, e, d.Steps()-before)
	}
	files(t, d, "log-000000000001", "log-000000000002")
	contains(t, d, "log-000000000001", framed(1, mixed(4988, 1)), 5000)
	contains(t, d, "log-000000000002", nil, 0)
	has(t, j, 1, mixed(4988, 1))
	has(t, opened(t, d, "log"), 1, mixed(4988, 1))
	// The next record goes there.
	appended(t, j, 2, mixed(18, 2))
	if d.Steps() != before+3 {
		t.Errorf("%d steps", d.Steps()-before)
	}
	contains(t, d, "log-000000000002", framed(1, mixed(18, 2)), 0)
	// And where it is without records yet, Drop leaves it alone.
	d = fresh(t, 5030)
	j = opened(t, d, "log")
	appended(t, j, 1, mixed(4988, 1))
	j.Append(make([]byte, 19))
	fine(t, j.Drop(2))
	has(t, j, 2)
	files(t, d, "log-000000000002")
	appended(t, j, 2, []byte("b"))
	has(t, opened(t, d, "log"), 2, []byte("b"))
}

// TestAppendFuse stops an Append at each of its steps: no record is there then, and the journal does nothing any more.
func TestAppendFuse(t *testing.T) {
	for _, size := range []int{0, 40, 200, 5000} {
		for _, ahead := range [][][]byte{nil, {[]byte("a")}, {[]byte("a"), mixed(4900, 1)}} {
			for fuse := range 100 {
				d := fresh(t, 1<<20)
				j := opened(t, d, "log")
				appended(t, j, 1, ahead...)
				fine(t, j.Sync(), d.Fuse(fuse))
				n, e := j.Append(mixed(size, 7))
				if e == api.OK {
					has(t, j, 1, append(ahead, mixed(size, 7))...)
					break
				}
				if n != 0 || e != api.ErrOff || d.On() {
					t.Fatalf("a fuse of %d: %d, error %d", fuse, n, e)
				}
				ended(t, d, j, 1, ahead...)
				fine(t, d.Crash([]int{9999, 9999}))
				has(t, opened(t, d, "log"), 1, ahead...)
			}
		}
	}
}

// TestAppendDisksError has the file of the next segment there already, or the last one gone: the disk's error is passed on.
func TestAppendDisksError(t *testing.T) {
	d := fresh(t, 1<<20)
	j := opened(t, d, "log")
	appended(t, j, 1, mixed(5000, 1))
	fine(t, d.Make("log-000000000002"))
	if n, e := j.Append(nil); n != 0 || e != api.ErrThere {
		t.Errorf("Append: %d, error %d", n, e)
	}
	has(t, j, 1, mixed(5000, 1))
	fine(t, d.Remove("log-000000000002"))
	appended(t, j, 2, nil)
	fine(t, d.Remove("log-000000000002"))
	if n, e := j.Append(nil); n != 0 || e != api.ErrNone {
		t.Errorf("Append: %d, error %d", n, e)
	}
	if e := j.Sync(); e != api.ErrNone {
		t.Errorf("Sync: error %d", e)
	}
	if e := j.Restart(9); e != api.ErrNone {
		t.Errorf("Restart: error %d", e)
	}
	has(t, j, 1, mixed(5000, 1), nil)
	if b, _ := d.Read("log-000000000001"); !bytes.Equal(b, framed(1, mixed(5000, 1))) {
		t.Errorf("a segment changed")
	}
}

// TestGreatestNumber comes to the end of the numbers that a segment's name can tell: nothing is lost.
func TestGreatestNumber(t *testing.T) {
	d := fresh(t, 1<<20)
	laid(t, d, "log-999999999999")
	j := opened(t, d, "log")
	appended(t, j, 999999999999, []byte("a"), mixed(5000, 1))
	before := seen(d)
	if n, e := j.Append([]byte("b")); n != 0 || e != api.ErrArg || seen(d) != before {
		t.Errorf("Append: %d, error %d\n%s", n, e, seen(d))
	}
	fine(t, j.Sync())
	has(t, j, 999999999999, []byte("a"), mixed(5000, 1))
	fine(t, j.Restart(1<<39))
	appended(t, j, 1<<39, []byte("b"))
	files(t, d, "log-549755813888")
	// The last number that a name can tell begins a segment.
	d = fresh(t, 1<<20)
	laid(t, d, "log-999999999998", framed(1, mixed(5000, 1)))
	j = opened(t, d, "log")
	appended(t, j, 999999999999, []byte("b"))
	files(t, d, "log-999999999998", "log-999999999999")
	has(t, opened(t, d, "log"), 999999999998, mixed(5000, 1), []byte("b"))
}
