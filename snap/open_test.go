package snap_test

import (
	"slices"
	"strings"
	"testing"

	"berthmaster/api"
	"berthmaster/disk"
	"berthmaster/snap"
)

func TestExamples(t *testing.T) {
	d := fresh(t, 100000)
	s := opened(t, d, "m")
	has(t, s, nil, 1)
	logged(t, s, 1, []byte("a"), []byte("b"))
	fine(t, s.Save([]byte("AB")))
	files(t, d, "m-000000000001", "m-snap-000000000003")
	contains(t, d, "m-snap-000000000003", shot(3, []byte("AB")), 15)
	has(t, s, []byte("AB"), 3)
	logged(t, s, 3, []byte("c"))
	fine(t, s.Sync(), d.Crash(nil))
	has(t, opened(t, d, "m"), []byte("AB"), 3, []byte("c"))
}

// TestShot holds the tests' own words against bytes reckoned by hand.
func TestShot(t *testing.T) {
	if b := shot(300, []byte("x")); string(b[:4])+string(b[8:11]) != "\x02\x03\x00\x00\xac\x02x" || len(b) != 15 {
		t.Errorf("% x", b)
	}
}

// names answers names that may be, and those that may not.
func names() (good, bad []string) {
	good = []string{"ab", "abcdef", "zzzzzz", "snap", "cut", "snapne"}
	bad = []string{"", "abcdefg", "snapnew", "abcdefgh", "m-", "m-snap", "m-1", "-", "-snap-", strings.Repeat("a", 24), strings.Repeat("a", 300), "é", "mé", "ａ", "m\x00", "a b"}
	for x := range 256 {
		one := string([]byte{byte(x)})
		if x >= 'a' && x <= 'z' {
			good = append(good, one, one+"bcdef", "abcde"+one)
		} else {
			bad = append(bad, one, one+"b", "a"+one, "a"+one+"b", "abcde"+one)
		}
	}
	return good, bad
}

func TestOpenName(t *testing.T) {
	good, bad := names()
	for _, name := range good {
		d := fresh(t, 1000)
		s := opened(t, d, name)
		logged(t, s, 1, []byte("x"))
		fine(t, s.Save([]byte("X")))
		logged(t, s, 2, []byte("y"))
		files(t, d, name+"-000000000001", name+"-snap-000000000002")
		has(t, opened(t, d, name), []byte("X"), 2, []byte("y"))
	}
	d := fresh(t, 1000)
	laid(t, d, "m-snapnew")
	laid(t, d, "m-snap-000000000001")
	laid(t, d, "m-000000000001", framed(2, nil))
	for _, name := range bad {
		// Not each of them can begin a file's name.
		d.Make(name + "-snapnew")
	}
	if len(d.Names()) < 200 {
		t.Fatalf("%d files", len(d.Names()))
	}
	before := seen(d)
	for _, name := range bad {
		if s, e := snap.Open(d, name); s != nil || e != api.ErrArg {
			t.Errorf("Open of %q: %v, error %d", name, s, e)
		}
	}
	if seen(d) != before {
		t.Errorf("Open, refused, changed the disk:\n%s%s", before, seen(d))
	}
}

// TestOpenNew opens a checkpoint without files, which does no step.
func TestOpenNew(t *testing.T) {
	d := fresh(t, 0)
	fine(t, d.Fuse(0))
	s := opened(t, d, "m")
	has(t, s, nil, 1)
	fine(t, s.Sync())
	files(t, d)
	if d.Steps() != 0 || !d.On() {
		t.Errorf("%d steps, on: %v", d.Steps(), d.On())
	}
}

// TestOpenErrors asks for the errors in their order.
func TestOpenErrors(t *testing.T) {
	wrong := []string{"", "M", "abcdefg", "m-", "m ", strings.Repeat("a", 40)}
	copied, off := *fresh(t, 100), *gone(t, fresh(t, 100))
	for i, d := range []*disk.Disk{nil, {}, new(disk.Disk), &copied, &off} {
		for _, name := range append(wrong, "m", "abcdef") {
			if s, e := snap.Open(d, name); s != nil || e != api.ErrNil {
				t.Errorf("Open of %q on disk %d: %v, error %d", name, i, s, e)
			}
		}
	}
	d := gone(t, fresh(t, 100))
	for _, name := range wrong {
		if s, e := snap.Open(d, name); s != nil || e != api.ErrArg {
			t.Errorf("Open of %q on a disk that is off: %v, error %d", name, s, e)
		}
	}
	for _, name := range []string{"a", "m", "abcdef"} {
		if s, e := snap.Open(d, name); s != nil || e != api.ErrOff {
			t.Errorf("Open of %q on a disk that is off: %v, error %d", name, s, e)
		}
	}
	if d.On() || d.Steps() != 0 {
		t.Error("Open turned the disk on")
	}
}

// TestOpenKeepsTheFuse opens checkpoints on a disk that is about to fail: who asks whether somebody made it takes nothing away.
func TestOpenKeepsTheFuse(t *testing.T) {
	d := fresh(t, 1000)
	laid(t, d, "m-snap-000000000001", shot(1, []byte("A")))
	laid(t, d, "m-000000000001", framed(1, []byte("a")))
	fine(t, d.Fuse(1))
	s := opened(t, d, "m")
	snap.Open(d, "M")
	logged(t, s, 2, nil)
	if e := s.Sync(); e != api.ErrOff {
		t.Errorf("Sync: error %d", e)
	}
}

// near answers names of files that are nearly a snapshot's of the checkpoint m, or its file -snapnew.
func near() []string {
	return []string{"m", "m-snap", "m-snap-", "m-snap-1", "m-snap-00000000009", "m-snap-0000000000009", "m-snap-9000000000000", "m-snap-00000000000a", "m-snap-a00000000009", "m-snap--00000000009",
		"m-snap-+00000000009", "m-snap-0_0000000009", "m-snap-00000000009~", "m-snap_000000000009", "m_snap-000000000009", "msnap-000000000009", "m-snap000000000009", "M-snap-000000000009",
		"m-SNAP-000000000009", "mm-snap-000000000009", "-snap-000000000009", "m-snap-00000000000:", "m-snap-00000000000/", "m-snap-snap-000000000009", "m-snap-m-snap-0000000009",
		"xm-snap-000000000009", "m-m-snap-000000000009", "m-snap-0x0000000009", "m-snap-0x000000000a", "m-snap-000000000009~", "m-snap-00000000009.", "m-snap-0000000001e1", "snap-000000000009",
		"m-snapne", "m-snapnew1", "m-snapnew-", "m-SNAPNEW", "mm-snapnew", "-snapnew", "snapnew", "m-snap-new", "n-snapnew", "m--snapnew", "m-snap-000000000009-snap", "m-snapnew-000000000009",
		"m-00000000001", "m-0000000000001", "mm-000000000001", "mm-cut"}
}

// TestOpenOtherFiles lays files beside a checkpoint's: they are not read, nor changed, whether something is to be removed or not.
func TestOpenOtherFiles(t *testing.T) {
	for _, own := range [][]string{nil, {"m-snap-000000000007"}, {"m-snap-000000000006", "m-snap-000000000007", "m-snapnew", "m-000000000009"}} {
		d := fresh(t, 100000)
		for i, name := range near() {
			if len(name) <= 24 {
				laid(t, d, name, shot(9, mixed(i, i)))
			}
		}
		_, before, _ := strings.Cut(seen(d), "left\n")
		for _, name := range own {
			laid(t, d, name, shot(7, []byte("seven")))
		}
		s := opened(t, d, "m")
		if own == nil {
			has(t, s, nil, 1)
			continue
		}
		has(t, s, []byte("seven"), 7)
		logged(t, s, 7, make([]byte, 5000), nil)
		fine(t, s.Save([]byte("nine")), s.Save([]byte("nine again")))
		fine(t, d.Remove("m-snap-000000000009"), d.Remove("m-000000000008"))
		if _, after, _ := strings.Cut(seen(d), "left\n"); after != before {
			t.Errorf("other files changed:\n%s%s", before, after)
		}
	}
}

// TestOpenBeside opens checkpoints of several names on one disk: none sees what the others have.
func TestOpenBeside(t *testing.T) {
	d := fresh(t, 100000)
	l := []string{"a", "aa", "b", "cut", "snap", "aaaaaa"}
	for i, name := range l {
		s := opened(t, d, name)
		logged(t, s, 1, []byte(name), mixed(4090, i))
		fine(t, s.Save([]byte(name)))
		logged(t, s, 3, []byte("last"))
	}
	// Of each a segment was dropped, but for the last one.
	if n := len(d.Names()); n != 3*len(l) {
		t.Errorf("files %q", d.Names())
	}
	for _, name := range l {
		s := opened(t, d, name)
		has(t, s, []byte(name), 3, []byte("last"))
		fine(t, s.Save([]byte(name+"!")))
	}
	for _, name := range l {
		has(t, opened(t, d, name), []byte(name+"!"), 4)
	}
}

// TestOpenAgain opens a checkpoint twice: what was logged and saved is there, without a step.
func TestOpenAgain(t *testing.T) {
	d := fresh(t, 100000)
	s := opened(t, d, "m")
	l := [][]byte{[]byte("a"), nil, mixed(5000, 1), []byte("d"), mixed(300, 2)}
	logged(t, s, 1, l[:2]...)
	fine(t, s.Save(mixed(200, 3)))
	logged(t, s, 3, l[2:]...)
	steps := d.Steps()
	s = opened(t, d, "m")
	has(t, s, mixed(200, 3), 3, l[2:]...)
	if d.Steps() != steps {
		t.Errorf("%d steps more", d.Steps()-steps)
	}
	// It goes on within the last segment.
	logged(t, s, 6, []byte("f"))
	files(t, d, "m-000000000001", "m-000000000004", "m-snap-000000000003")
	has(t, opened(t, d, "m"), mixed(200, 3), 3, append(slices.Clone(l[2:]), []byte("f"))...)
}
