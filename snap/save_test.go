package snap_test

import (
	"fmt"
	"slices"
	"testing"

	"berthmaster/api"
	"berthmaster/disk"
	"berthmaster/snap"
)

// TestSaveSizes saves snapshots of many sizes: each is one frame of the kind of snapshots.
func TestSaveSizes(t *testing.T) {
	for _, n := range []int{0, 1, 2, 50, 51, 52, 115, 116, 5000, 65536, 65537, 1048559, 1048560} {
		d := fresh(t, 1<<21)
		s := opened(t, d, "m")
		fine(t, s.Save(mixed(n, n)))
		files(t, d, "m-snap-000000000001")
		contains(t, d, "m-snap-000000000001", shot(1, mixed(n, n)), n+13)
		// A making, a write for each 64 bytes, a sync, a renaming.
		if want := 3 + (n+13+63)/64; d.Steps() != want {
			t.Errorf("%d bytes: %d steps, not %d", n, d.Steps(), want)
		}
		has(t, s, mixed(n, n), 1)
		has(t, opened(t, d, "m"), mixed(n, n), 1)
	}
}

func TestSaveLong(t *testing.T) {
	d := fresh(t, 1<<22)
	s := opened(t, d, "m")
	for range 2 {
		before, was := seen(d), told(s)
		for _, n := range []int{1048561, 1048562, 1 << 20, 1<<20 + 1, 1 << 21} {
			if e := s.Save(make([]byte, n)); e != api.ErrLong {
				t.Errorf("Save of %d bytes: error %d", n, e)
			}
		}
		if seen(d) != before || told(s) != was {
			t.Errorf("Save, refused, changed something:\n%s%snot\n%s%s", told(s), seen(d), was, before)
		}
		logged(t, s, s.Next(), []byte("a"))
		fine(t, s.Save(mixed(1048560, 1)))
		logged(t, s, s.Next(), []byte("b"))
	}
	has(t, opened(t, d, "m"), mixed(1048560, 1), 4, []byte("b"))
}

// TestSaveNumbers saves up to numbers whose bytes are more than one.
func TestSaveNumbers(t *testing.T) {
	for _, upto := range []uint64{2, 127, 128, 300, 16384, 1<<35 - 1, 1 << 35, 1 << 39} {
		d := fresh(t, 1<<22)
		laid(t, d, named("m", upto-1), shot(upto-1, []byte("ahead")))
		s := opened(t, d, "m")
		logged(t, s, upto-1, []byte("a"))
		fine(t, s.Save(mixed(1048560, 1)))
		contains(t, d, named("m", upto), shot(upto, mixed(1048560, 1)), len(shot(upto, mixed(1048560, 1))))
		files(t, d, fmt.Sprintf("m-%012d", upto-1), named("m", upto))
		has(t, opened(t, d, "m"), mixed(1048560, 1), upto)
	}
}

// TestSaveDrops saves behind some segments: those that are in the snapshot go, but the last one.
func TestSaveDrops(t *testing.T) {
	d := fresh(t, 1<<20)
	s := opened(t, d, "m")
	l := [][]byte{mixed(5000, 1), mixed(5000, 2), mixed(4000, 3), mixed(4000, 4), []byte("five"), []byte("six")}
	logged(t, s, 1, l...)
	has(t, s, nil, 1, l...)
	files(t, d, "m-000000000001", "m-000000000002", "m-000000000003", "m-000000000005")
	contains(t, d, "m-000000000005", slices.Concat(of("five"), of("six")), 0)
	fine(t, s.Save([]byte("S")))
	files(t, d, "m-000000000005", "m-snap-000000000007")
	contains(t, d, "m-000000000005", slices.Concat(of("five"), of("six")), 31)
	has(t, s, []byte("S"), 7)
	// A full segment, the last one, is left too.
	logged(t, s, 7, mixed(5000, 5))
	fine(t, s.Save([]byte("T")))
	files(t, d, "m-000000000005", "m-snap-000000000008")
	logged(t, s, 8, []byte("eight"))
	files(t, d, "m-000000000005", "m-000000000008", "m-snap-000000000008")
	has(t, s, []byte("T"), 8, []byte("eight"))
	fine(t, s.Save([]byte("U")))
	files(t, d, "m-000000000008", "m-snap-000000000009")
	has(t, s, []byte("U"), 9)
	has(t, opened(t, d, "m"), []byte("U"), 9)
}

// TestSaveTwice saves with nothing logged between: the snapshot takes the place of the one that has its very name.
func TestSaveTwice(t *testing.T) {
	for _, ahead := range [][][]byte{nil, texts("a", "b")} {
		d := fresh(t, 1000)
		s := opened(t, d, "m")
		logged(t, s, 1, ahead...)
		upto := uint64(len(ahead)) + 1
		fine(t, s.Save([]byte("first")))
		steps := d.Steps()
		fine(t, s.Save([]byte("second")))
		contains(t, d, named("m", upto), shot(upto, []byte("second")), 19)
		// A sync of the segment, if there is one; a making, a write, a sync, a renaming.
		if want := 4 + min(len(ahead), 1); d.Steps() != steps+want {
			t.Errorf("%d steps, not %d", d.Steps()-steps, want)
		}
		has(t, s, []byte("second"), upto)
		fine(t, s.Save(nil))
		has(t, s, []byte{}, upto)
		contains(t, d, named("m", upto), shot(upto, nil), 13)
		has(t, opened(t, d, "m"), []byte{}, upto)
		files(t, d, append([]string{"m-000000000001"}[:min(len(ahead), 1)], named("m", upto))...)
	}
}

// saving answers a checkpoint whose Save has each of the steps to do: 3 segments, a snapshot ahead, a file -snapnew.
func saving(t *testing.T, room int) (*disk.Disk, *snap.Store) {
	t.Helper()
	d := fresh(t, room)
	s := opened(t, d, "m")
	logged(t, s, 1, []byte("a"))
	fine(t, s.Save([]byte("A")))
	logged(t, s, 2, mixed(4090, 1), mixed(5000, 2), []byte("d"))
	files(t, d, "m-000000000001", "m-000000000003", "m-000000000004", "m-snap-000000000002")
	laid(t, d, "m-snapnew", mixed(30, 1))
	return d, s
}

// TestSaveSteps stops a Save ahead of each of its steps: what stands on the disk then, what is told then, and what is there again.
func TestSaveSteps(t *testing.T) {
	segments := []string{"m-000000000001", "m-000000000003", "m-000000000004"}
	old, half, file := "m-snap-000000000002", "m-snapnew", "m-snap-000000000005"
	text := mixed(100, 9)
	for fuse, c := range []struct {
		names   []string
		written int // bytes of -snapnew
		synced  int
		last    int // bytes of the last segment that are synced
		done    bool
	}{
		{append(slices.Clone(segments), old, half), 30, 30, 0, false},
		{append(slices.Clone(segments), old, half), 30, 30, 13, false},
		{append(slices.Clone(segments), old), -1, -1, 13, false},
		{append(slices.Clone(segments), old, half), 0, 0, 13, false},
		{append(slices.Clone(segments), old, half), 64, 0, 13, false},
		{append(slices.Clone(segments), old, half), 113, 0, 13, false},
		{append(slices.Clone(segments), old, half), 113, 113, 13, false},
		{append(slices.Clone(segments), old, file), -1, -1, 13, true},
		{append(slices.Clone(segments), file), -1, -1, 13, true},
		{append(slices.Clone(segments[1:]), file), -1, -1, 13, true},
		{append(slices.Clone(segments[2:]), file), -1, -1, 13, true},
	} {
		d, s := saving(t, 1<<20)
		before := d.Steps()
		fine(t, d.Fuse(fuse))
		want := api.ErrOff
		if fuse == 10 {
			want = api.OK
		}
		if e := s.Save(text); e != want || d.On() != (want == api.OK) || d.Steps() != before+fuse {
			t.Fatalf("a fuse of %d: error %d, %d steps", fuse, e, d.Steps()-before)
		}
		snapshot, upto, since := []byte("A"), uint64(2), [][]byte{mixed(4090, 1), mixed(5000, 2), []byte("d")}
		if c.done {
			snapshot, upto, since = text, 5, nil
		}
		has(t, s, snapshot, upto, since...)
		if want != api.OK {
			ended(t, d, s)
			has(t, s, snapshot, upto, since...)
		}
		loose, firm := stopped(t, fuse, slices.Repeat([]int{1 << 20}, 9)), stopped(t, fuse, nil)
		files(t, loose, c.names...)
		if c.written >= 0 {
			b, _ := loose.Read(half)
			n, _ := firm.Synced(half)
			if len(b) != c.written || n != c.synced || c.written > 30 && !slices.Equal(b, shot(5, text)[:c.written]) {
				t.Errorf("a fuse of %d: %d bytes of -snapnew, %d of them synced, not %d, %d", fuse, len(b), n, c.written, c.synced)
			}
		}
		if c.done {
			contains(t, firm, file, shot(5, text), 113)
		}
		contains(t, firm, segments[2], of("d")[:c.last], c.last)
		has(t, opened(t, loose, "m"), snapshot, upto, since...)
		if c.last == 0 {
			since = since[:2]
		}
		has(t, opened(t, firm, "m"), snapshot, upto, since...)
	}
}

// stopped answers the disk behind that Save with that fuse and a crash.
func stopped(t *testing.T, fuse int, keep []int) *disk.Disk {
	t.Helper()
	d, s := saving(t, 1<<20)
	fine(t, d.Fuse(fuse))
	s.Save(mixed(100, 9))
	fine(t, d.Crash(keep))
	return d
}

// TestSaveFull has no room for the snapshot: -snapnew is removed, and all is as it was.
func TestSaveFull(t *testing.T) {
	for room := 60; room < 140; room++ {
		d := fresh(t, room)
		s := opened(t, d, "m")
		logged(t, s, 1, []byte("a"))
		fine(t, s.Save([]byte("A")), s.Sync())
		logged(t, s, 2, []byte("b"))
		fine(t, s.Sync())
		left, was, names, steps := d.Left(), told(s), d.Names(), d.Steps()
		text := mixed(80-13, 1)
		e := s.Save(text)
		if left >= 80 {
			// The old one's room is needed too while the new one is written.
			if e != api.OK {
				t.Errorf("%d bytes left: error %d", left, e)
			}
			has(t, s, text, 3)
			continue
		}
		// The segment's sync, a making, a removal.
		if e != api.ErrFull || d.Left() != left || told(s) != was || d.Steps() != steps+3 {
			t.Errorf("%d bytes left: error %d, then %d left, %d steps\n%s", left, e, d.Left(), d.Steps()-steps, told(s))
		}
		files(t, d, names...)
		contains(t, d, "m-snap-000000000002", shot(2, []byte("A")), 14)
		contains(t, d, "m-000000000001", slices.Concat(of("a"), of("b")), 26)
		has(t, opened(t, d, "m"), []byte("A"), 2, []byte("b"))
		// It goes on, and what fits is saved.
		has(t, s, []byte("A"), 2, []byte("b"))
		if left >= 26 {
			logged(t, s, 3, nil)
			fine(t, s.Sync(), s.Save([]byte("!")))
			has(t, s, []byte("!"), 4)
			has(t, opened(t, d, "m"), []byte("!"), 4)
		}
	}
}

// TestSaveFullFuse has no room, and the disk goes off ahead of the steps that are done then: at the removal of -snapnew too.
func TestSaveFullFuse(t *testing.T) {
	for fuse := range 7 {
		d := fresh(t, 60)
		s := opened(t, d, "m")
		logged(t, s, 1, []byte("a"))
		fine(t, s.Save([]byte("A")))
		laid(t, d, "m-snapnew", []byte("x"))
		fine(t, d.Fuse(fuse))
		e := s.Save(mixed(60, 1))
		has(t, s, []byte("A"), 2)
		// A sync, a removal, a making, a removal.
		if fuse >= 4 {
			if e != api.ErrFull {
				t.Errorf("a fuse of %d: error %d", fuse, e)
			}
			files(t, d, "m-000000000001", "m-snap-000000000002")
			fine(t, d.Free(), s.Save([]byte("B")))
			continue
		}
		if e != api.ErrOff || d.On() {
			t.Errorf("a fuse of %d: error %d", fuse, e)
		}
		ended(t, d, s)
		fine(t, d.Crash(nil))
		has(t, opened(t, d, "m"), []byte("A"), 2)
		files(t, d, "m-000000000001", "m-snap-000000000002")
	}
}

// TestSaveHalf has a file -snapnew there, which is removed first: its room is free then.
func TestSaveHalf(t *testing.T) {
	d := fresh(t, 70)
	s := opened(t, d, "m")
	laid(t, d, "m-snapnew", mixed(70, 1))
	fine(t, s.Save(mixed(50, 2)))
	files(t, d, "m-snap-000000000001")
	contains(t, d, "m-snap-000000000001", shot(1, mixed(50, 2)), 63)
	// It goes too where there is no room for the new one.
	laid(t, d, "m-snapnew", mixed(7, 1))
	if e := s.Save(nil); e != api.ErrFull {
		t.Errorf("Save: error %d", e)
	}
	files(t, d, "m-snap-000000000001")
	has(t, s, mixed(50, 2), 1)
}

// TestSaveOverOthers has a file of the new snapshot's name there: it is no more.
func TestSaveOverOthers(t *testing.T) {
	d := fresh(t, 1000)
	s := opened(t, d, "m")
	logged(t, s, 1, []byte("a"))
	laid(t, d, "m-snap-000000000002", mixed(100, 1))
	fine(t, s.Save([]byte("A")))
	files(t, d, "m-000000000001", "m-snap-000000000002")
	has(t, opened(t, d, "m"), []byte("A"), 2)
}

// TestSaveDisksError has files of the checkpoint's gone: the disk's error is passed on, and the checkpoint goes on.
func TestSaveDisksError(t *testing.T) {
	d, s := saving(t, 1<<20)
	fine(t, d.Remove("m-snap-000000000002"))
	if e := s.Save([]byte("S")); e != api.ErrNone {
		t.Errorf("Save: error %d", e)
	}
	// The new one is there already.
	has(t, s, []byte("S"), 5)
	files(t, d, "m-000000000001", "m-000000000003", "m-000000000004", "m-snap-000000000005")
	fine(t, s.Save([]byte("T")))
	files(t, d, "m-000000000004", "m-snap-000000000005")
	has(t, s, []byte("T"), 5)
	has(t, opened(t, d, "m"), []byte("T"), 5)

	d, s = saving(t, 1<<20)
	was := told(s)
	fine(t, d.Remove("m-000000000004"))
	before := seen(d)
	if e := s.Save([]byte("S")); e != api.ErrNone || seen(d) != before || told(s) != was {
		t.Errorf("Save: error %d", e)
	}
	if e := s.Sync(); e != api.ErrNone {
		t.Errorf("Sync: error %d", e)
	}
	fine(t, d.Make("m-000000000004"))
	fine(t, s.Save([]byte("S")))
	has(t, s, []byte("S"), 5)

	d, s = saving(t, 1<<20)
	fine(t, d.Remove("m-000000000003"))
	if e := s.Save([]byte("S")); e != api.ErrNone {
		t.Errorf("Save: error %d", e)
	}
	has(t, s, []byte("S"), 5)
	files(t, d, "m-000000000004", "m-snap-000000000005")
	logged(t, s, 5, []byte("on"))
	has(t, opened(t, d, "m"), []byte("S"), 5, []byte("on"))
}

// TestSaveGreatest comes to the end of the numbers that a snapshot's name can tell: nothing is changed.
func TestSaveGreatest(t *testing.T) {
	d := fresh(t, 1<<20)
	laid(t, d, "m-snap-999999999999", shot(999999999999, []byte("S")))
	laid(t, d, "m-999999999999")
	s := opened(t, d, "m")
	fine(t, s.Save([]byte("T")))
	has(t, s, []byte("T"), 999999999999)
	logged(t, s, 999999999999, []byte("a"))
	before, was := seen(d), told(s)
	for range 2 {
		if e := s.Save([]byte("U")); e != api.ErrArg || seen(d) != before || told(s) != was {
			t.Errorf("Save: error %d\n%s%s", e, told(s), seen(d))
		}
	}
	if e := s.Save(make([]byte, 1<<20)); e != api.ErrLong {
		t.Errorf("Save: error %d", e)
	}
	fine(t, s.Sync())
	logged(t, s, 1000000000000, []byte("b"))
	has(t, opened(t, d, "m"), []byte("T"), 999999999999, texts("a", "b")...)
}
