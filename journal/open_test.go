package journal_test

import (
	"slices"
	"strings"
	"testing"

	"berthmaster/api"
	"berthmaster/disk"
	"berthmaster/journal"
)

func TestExamples(t *testing.T) {
	d := fresh(t, 100000)
	j := opened(t, d, "log")
	appended(t, j, 1, []byte("a"), []byte("b"))
	if j.Next() != 3 {
		t.Errorf("Next: %d", j.Next())
	}
	files(t, d, "log-000000000001")
	fine(t, j.Sync())
	appended(t, j, 3, []byte("c"))
	fine(t, d.Crash(nil))
	j = opened(t, d, "log")
	has(t, j, 1, []byte("a"), []byte("b"))
	appended(t, j, 3, make([]byte, 5000), []byte("d"))
	files(t, d, "log-000000000001", "log-000000000004")
	fine(t, j.Drop(4))
	if j.First() != 4 {
		t.Errorf("First: %d", j.First())
	}
	if b, e := j.Read(3); len(b) != 0 || e != api.ErrNone {
		t.Errorf("Read: %q, error %d", b, e)
	}
	files(t, d, "log-000000000004")
	if j, e := journal.Open(d, "Log"); j != nil || e != api.ErrArg {
		t.Errorf("Open: %v, error %d", j, e)
	}
}

// names answers names that may be, and those that may not.
func names() (good, bad []string) {
	good = []string{"ab", "abcdefgh", "zzzzzzzz", "cut", "snap"}
	bad = []string{"", "abcdefghi", "log-", "log-cut", "log-1", "-", strings.Repeat("a", 24), strings.Repeat("a", 300), "é", "logé", "ａ", "log\x00", "a b"}
	for x := range 256 {
		one := string([]byte{byte(x)})
		if x >= 'a' && x <= 'z' {
			good = append(good, one, one+"bcdefgh", "abcdefg"+one)
		} else {
			bad = append(bad, one, one+"b", "a"+one, "a"+one+"b", "abcdefg"+one)
		}
	}
	return good, bad
}

func TestOpenName(t *testing.T) {
	good, bad := names()
	for _, name := range good {
		d := fresh(t, 1000)
		j := opened(t, d, name)
		appended(t, j, 1, []byte("x"))
		files(t, d, name+"-000000000001")
		has(t, opened(t, d, name), 1, []byte("x"))
	}
	d := fresh(t, 1000)
	laid(t, d, "log-cut")
	laid(t, d, "log-000000000001", framed(2, nil))
	before := seen(d)
	for _, name := range bad {
		if j, e := journal.Open(d, name); j != nil || e != api.ErrArg {
			t.Errorf("Open of %q: %v, error %d", name, j, e)
		}
	}
	if seen(d) != before {
		t.Errorf("Open, refused, changed the disk:\n%s%s", before, seen(d))
	}
}

// TestOpenNew opens a journal without segments, which does no step.
func TestOpenNew(t *testing.T) {
	d := fresh(t, 0)
	fine(t, d.Fuse(0))
	j := opened(t, d, "log")
	has(t, j, 1)
	files(t, d)
	if d.Steps() != 0 || !d.On() {
		t.Errorf("%d steps, on: %v", d.Steps(), d.On())
	}
}

// gone answers a disk that is off.
func gone(t *testing.T, d *disk.Disk) *disk.Disk {
	t.Helper()
	d.Fuse(0)
	if d.Make("off") != api.ErrOff || d.On() {
		t.Fatal("the disk is on")
	}
	return d
}

// TestOpenErrors asks for the errors in their order.
func TestOpenErrors(t *testing.T) {
	copied, off := *fresh(t, 100), *gone(t, fresh(t, 100))
	for i, d := range []*disk.Disk{nil, {}, new(disk.Disk), &copied, &off} {
		for _, name := range []string{"log", "", "Log", "abcdefghi", strings.Repeat("a", 40)} {
			if j, e := journal.Open(d, name); j != nil || e != api.ErrNil {
				t.Errorf("Open of %q on disk %d: %v, error %d", name, i, j, e)
			}
		}
	}
	d := gone(t, fresh(t, 100))
	for _, name := range []string{"", "Log", "abcdefghi", strings.Repeat("a", 40), "log "} {
		if j, e := journal.Open(d, name); j != nil || e != api.ErrArg {
			t.Errorf("Open of %q on a disk that is off: %v, error %d", name, j, e)
		}
	}
	for _, name := range []string{"a", "log", "abcdefgh"} {
		if j, e := journal.Open(d, name); j != nil || e != api.ErrOff {
			t.Errorf("Open of %q on a disk that is off: %v, error %d", name, j, e)
		}
	}
	if d.On() || d.Steps() != 0 {
		t.Error("Open turned the disk on")
	}
}

// TestOpenKeepsTheFuse opens journals on a disk that is about to fail: who asks whether somebody made it takes nothing away.
func TestOpenKeepsTheFuse(t *testing.T) {
	d := fresh(t, 1000)
	laid(t, d, "log-000000000001", framed(1, []byte("a")))
	fine(t, d.Fuse(1))
	j := opened(t, d, "log")
	journal.Open(d, "Log")
	appended(t, j, 2, nil)
	if e := j.Sync(); e != api.ErrOff {
		t.Errorf("Sync: error %d", e)
	}
}

// near answers names of files that are not a segment's of the journal log, nor its file -cut.
func near() []string {
	return []string{"log", "log-", "log-1", "log-00000000001", "log-0000000000001", "log-1000000000000", "log-00000000000a", "log-a00000000001", "log--00000000001", "log-+00000000001",
		"log-0_0000000001", "log-00000000001~", "log_000000000001", "log000000000001", "Log-000000000001", "lo-000000000001", "logs-000000000001", "log-00000000000:", "log-00000000000/",
		"log-000000000001~", "-000000000001", "xlog-000000000001", "log-snap-000000000001", "log-snapnew", "log-CUT", "log-cut1", "log-cu", "cut", "-cut", "lo-cut", "logs-cut", "log-log-000000000001", "000000000001", "log-0x0000000001", "log-1e0000000001"}
}

// TestOpenOtherFiles lays files beside a journal's: they are not read, nor changed, whether something is to be removed or not.
func TestOpenOtherFiles(t *testing.T) {
	for _, own := range [][]string{nil, {"log-000000000007"}, {"log-000000000007", "log-000000000009", "log-cut"}} {
		d := fresh(t, 100000)
		for i, name := range near() {
			laid(t, d, name, framed(1, mixed(i, i)), mixed(3, i))
		}
		_, before, _ := strings.Cut(seen(d), "left\n")
		for _, name := range own {
			laid(t, d, name, framed(1, []byte("seven")))
		}
		j := opened(t, d, "log")
		if own == nil {
			has(t, j, 1)
			continue
		}
		has(t, j, 7, []byte("seven"))
		appended(t, j, 8, make([]byte, 5000), nil)
		fine(t, j.Drop(9), j.Restart(30))
		if _, after, _ := strings.Cut(seen(d), "left\n"); after != before {
			t.Errorf("other files changed:\n%s%s", before, after)
		}
	}
}

// TestOpenBeside opens journals of several names on one disk: none sees what the others have.
func TestOpenBeside(t *testing.T) {
	d := fresh(t, 100000)
	l := []string{"a", "aa", "b", "cut", "aaaaaaaa"}
	for i, name := range l {
		appended(t, opened(t, d, name), 1, []byte(name), mixed(4090, i), []byte("last"))
	}
	if n := len(d.Names()); n != 2*len(l) {
		t.Errorf("files %q", d.Names())
	}
	for i, name := range l {
		j := opened(t, d, name)
		has(t, j, 1, []byte(name), mixed(4090, i), []byte("last"))
		fine(t, j.Restart(5))
		appended(t, j, 5, nil)
	}
	for _, name := range l {
		has(t, opened(t, d, name), 5, nil)
	}
}

// TestOpenAgain opens a journal twice: what was appended is there, though it is loose.
func TestOpenAgain(t *testing.T) {
	d := fresh(t, 100000)
	l := [][]byte{[]byte("a"), nil, mixed(5000, 1), []byte("d"), mixed(300, 2)}
	appended(t, opened(t, d, "log"), 1, l...)
	steps := d.Steps()
	j := opened(t, d, "log")
	has(t, j, 1, l...)
	if d.Steps() != steps {
		t.Errorf("%d steps more", d.Steps()-steps)
	}
	// It goes on within the last segment.
	appended(t, j, 6, []byte("f"))
	files(t, d, "log-000000000001", "log-000000000004")
	has(t, opened(t, d, "log"), 1, append(l, []byte("f"))...)
}

// TestOpenCutFile has a file -cut there at first: it is removed ahead of all else.
func TestOpenCutFile(t *testing.T) {
	for _, there := range []bool{false, true} {
		d := fresh(t, 10000)
		laid(t, d, "log-cut", framed(1, []byte("half")))
		if there {
			laid(t, d, "log-000000000003", framed(1, []byte("a")), []byte{1})
			laid(t, d, "log-000000000004", framed(1, []byte("b")))
		}
		left := d.Names()
		fine(t, d.Fuse(0))
		if j, e := journal.Open(d, "log"); j != nil || e != api.ErrOff {
			t.Errorf("Open: %v, error %d", j, e)
		}
		fine(t, d.Crash(nil))
		files(t, d, left...)
		fine(t, d.Fuse(1))
		j, e := journal.Open(d, "log")
		if there && (j != nil || e != api.ErrOff) || !there && e != api.OK {
			t.Errorf("Open: %v, error %d", j, e)
		}
		fine(t, d.Crash(nil))
		files(t, d, slices.DeleteFunc(left, func(name string) bool { return name == "log-cut" })...)
		j = opened(t, d, "log")
		if !there {
			has(t, j, 1)
			continue
		}
		has(t, j, 3, []byte("a"))
		files(t, d, "log-000000000003")
		contains(t, d, "log-000000000003", framed(1, []byte("a")), 13)
	}
}
