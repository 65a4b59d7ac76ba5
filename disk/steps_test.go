package disk_test

import (
	"bytes"
	"slices"
	"testing"

	"berthmaster/api"
)

// counted fails the test unless the calls are answered OK and do so many steps.
func counted(t *testing.T, d holder, want int, l ...call) {
	t.Helper()
	before := d.Steps()
	done(t, d, l...)
	if n := d.Steps() - before; n != want {
		t.Errorf("%v: %d steps, not %d", l, n, want)
	}
}

func TestExamples(t *testing.T) {
	d := opened(t, 100)
	counted(t, d, 4, call{what: "make", name: "a"}, call{what: "append", name: "a", n: 70}, call{what: "sync", name: "a"})
	if e := d.Append("a", []byte("xyz")); e != api.OK {
		t.Errorf("Append: error %d", e)
	}
	done(t, d, call{what: "crash", keep: []int{2}})
	has(t, d, "a", append(mixed(70, 1), 'x', 'y'), 72)
	refused(t, d, api.ErrFull, call{what: "append", name: "a", n: 29})
	done(t, d, call{what: "fuse", n: 0})
	if e := d.Sync("a"); e != api.ErrOff || d.On() {
		t.Errorf("Sync: error %d, on: %v", e, d.On())
	}
	done(t, d, call{what: "crash"})
	if !d.On() || d.Left() != 28 {
		t.Errorf("on: %v, %d left", d.On(), d.Left())
	}
	done(t, d, call{what: "rename", name: "a", other: "b"})
	if !slices.Equal(d.Names(), []string{"b"}) {
		t.Errorf("names: %v", d.Names())
	}
	unread(t, d, "a", api.ErrNone)
	if e := d.Turn("b", 0, 1); e != api.OK {
		t.Errorf("Turn: error %d", e)
	}
	if e := d.Turn("b", 72, 1); e != api.ErrNone {
		t.Errorf("Turn outside: error %d", e)
	}
	want := append(mixed(70, 1), 'x', 'y')
	want[0] ^= 1
	has(t, d, "b", want, 72)
}

func TestMake(t *testing.T) {
	d := opened(t, 10)
	counted(t, d, 1, call{what: "make", name: "a"})
	has(t, d, "a", nil, 0)
	if d.Left() != 10 {
		t.Errorf("%d left behind a making", d.Left())
	}
	done(t, d, call{what: "append", name: "a", n: 10})
	refused(t, d, api.ErrThere, call{what: "make", name: "a"})
	// A file is made even where there is no room.
	counted(t, d, 1, call{what: "make", name: "b"})
	has(t, d, "b", nil, 0)
	done(t, d, call{what: "fuse", n: 0})
	refused(t, d, api.ErrThere, call{what: "make", name: "b"})
}

func TestAppend(t *testing.T) {
	for _, n := range []int{0, 1, 2, 63, 64, 65, 127, 128, 129, 192, 640, 999, 1000} {
		d := opened(t, 1000)
		done(t, d, call{what: "make", name: "a"})
		counted(t, d, (n+63)/64, call{what: "append", name: "a", n: n})
		has(t, d, "a", mixed(n, 1), 0)
		if d.Left() != 1000-n {
			t.Errorf("%d left behind %d bytes", d.Left(), n)
		}
	}
}

// TestAppendBehind puts bytes behind others: each Append has steps of its own.
func TestAppendBehind(t *testing.T) {
	d := opened(t, 1<<20)
	done(t, d, call{what: "make", name: "a"}, call{what: "make", name: "b"})
	var want []byte
	for n := range 200 {
		counted(t, d, (n+63)/64, call{what: "append", name: "a", n: n})
		want = append(want, mixed(n, 1)...)
		if n == 100 {
			done(t, d, call{what: "sync", name: "a"})
		}
	}
	has(t, d, "a", want, 5050)
	has(t, d, "b", nil, 0)
	if d.Left() != 1<<20-len(want) {
		t.Errorf("%d left", d.Left())
	}
}

func TestAppendFull(t *testing.T) {
	d := opened(t, 130)
	refused(t, d, api.ErrNone, call{what: "append", name: "a", n: 131}, call{what: "append", name: "a"})
	done(t, d, call{what: "make", name: "a"}, call{what: "make", name: "b"})
	refused(t, d, api.ErrFull, call{what: "append", name: "a", n: 131}, call{what: "append", name: "a", n: 1000})
	counted(t, d, 1, call{what: "append", name: "b", n: 30})
	refused(t, d, api.ErrFull, call{what: "append", name: "a", n: 101})
	// Just what is left.
	counted(t, d, 2, call{what: "append", name: "a", n: 100})
	if d.Left() != 0 {
		t.Errorf("%d left", d.Left())
	}
	refused(t, d, api.ErrFull, call{what: "append", name: "a", n: 1}, call{what: "append", name: "b", n: 1})
	counted(t, d, 0, call{what: "append", name: "a"}, call{what: "append", name: "b"})
	has(t, d, "a", mixed(100, 1), 0)
	// The room of what is no more is there again.
	done(t, d, call{what: "remove", name: "b"}, call{what: "append", name: "a", n: 30})
	refused(t, d, api.ErrFull, call{what: "append", name: "a", n: 1})
	// An error is asked for ahead of the fuse.
	done(t, d, call{what: "fuse", n: 0})
	refused(t, d, api.ErrFull, call{what: "append", name: "a", n: 1})
	refused(t, d, api.ErrNone, call{what: "append", name: "b", n: 1})
	refused(t, d, api.OK, call{what: "append", name: "a"})
}

func TestNoRoom(t *testing.T) {
	d := opened(t, 0)
	done(t, d, call{what: "make", name: "a"}, call{what: "append", name: "a"}, call{what: "sync", name: "a"}, call{what: "crash", keep: []int{1, 2}})
	refused(t, d, api.ErrFull, call{what: "append", name: "a", n: 1})
	has(t, d, "a", nil, 0)
}

// TestGreatestRoom fills a great part of the greatest room.
func TestGreatestRoom(t *testing.T) {
	d := opened(t, greatestRoom)
	done(t, d, call{what: "make", name: "a"})
	b := mixed(1<<24, 5)
	for i := range 4 {
		if e := d.Append("a", b); e != api.OK || d.Left() != greatestRoom-(i+1)<<24 || d.Steps() != 1+(i+1)<<18 {
			t.Fatalf("Append: error %d, %d left, %d steps", e, d.Left(), d.Steps())
		}
	}
	all, e := d.Read("a")
	if e != api.OK || !bytes.Equal(all, bytes.Repeat(b, 4)) {
		t.Errorf("Read: %d bytes, error %d", len(all), e)
	}
}

func TestSync(t *testing.T) {
	d := opened(t, 500)
	refused(t, d, api.ErrNone, call{what: "sync", name: "a"})
	done(t, d, call{what: "make", name: "a"}, call{what: "make", name: "b"}, call{what: "append", name: "b", n: 9})
	counted(t, d, 1, call{what: "sync", name: "a"})
	has(t, d, "a", nil, 0)
	done(t, d, call{what: "append", name: "a", n: 200})
	counted(t, d, 1, call{what: "sync", name: "a"})
	has(t, d, "a", mixed(200, 1), 200)
	counted(t, d, 1, call{what: "sync", name: "a"})
	done(t, d, call{what: "append", name: "a", n: 5})
	has(t, d, "a", append(mixed(200, 1), mixed(5, 1)...), 200)
	has(t, d, "b", mixed(9, 1), 0)
}

func TestRename(t *testing.T) {
	d := opened(t, 300)
	done(t, d, call{what: "make", name: "a"}, call{what: "append", name: "a", n: 100}, call{what: "sync", name: "a"}, call{what: "append", name: "a", n: 20})
	all := append(mixed(100, 1), mixed(20, 1)...)
	refused(t, d, api.ErrNone, call{what: "rename", name: "b", other: "a"}, call{what: "rename", name: "b", other: "b"}, call{what: "rename", name: "b", other: "c"})
	counted(t, d, 0, call{what: "rename", name: "a", other: "a"})
	has(t, d, "a", all, 100)
	counted(t, d, 1, call{what: "rename", name: "a", other: "b"})
	unread(t, d, "a", api.ErrNone)
	has(t, d, "b", all, 100)
	if !slices.Equal(d.Names(), []string{"b"}) || d.Left() != 180 {
		t.Errorf("names %v, %d left", d.Names(), d.Left())
	}
	// Over a file that is there, and one without bytes.
	done(t, d, call{what: "make", name: "c"}, call{what: "append", name: "c", n: 130}, call{what: "sync", name: "c"})
	counted(t, d, 1, call{what: "rename", name: "b", other: "c"})
	has(t, d, "c", all, 100)
	if !slices.Equal(d.Names(), []string{"c"}) || d.Left() != 180 {
		t.Errorf("names %v, %d left", d.Names(), d.Left())
	}
	done(t, d, call{what: "make", name: "e"})
	counted(t, d, 1, call{what: "rename", name: "e", other: "c"})
	has(t, d, "c", nil, 0)
	if !slices.Equal(d.Names(), []string{"c"}) || d.Left() != 300 {
		t.Errorf("names %v, %d left", d.Names(), d.Left())
	}
	// A renaming to its own name is no step, so the fuse doesn't stop it; the other errors are asked ahead of it too.
	done(t, d, call{what: "fuse", n: 0}, call{what: "rename", name: "c", other: "c"})
	refused(t, d, api.ErrNone, call{what: "rename", name: "e", other: "c"})
	if e := d.Rename("c", "e"); e != api.ErrOff || d.On() {
		t.Errorf("Rename behind the fuse: error %d", e)
	}
}

func TestRemove(t *testing.T) {
	d := opened(t, 300)
	refused(t, d, api.ErrNone, call{what: "remove", name: "a"})
	done(t, d, call{what: "make", name: "a"}, call{what: "append", name: "a", n: 200}, call{what: "make", name: "b"}, call{what: "append", name: "b", n: 40}, call{what: "sync", name: "b"})
	counted(t, d, 1, call{what: "remove", name: "a"})
	unread(t, d, "a", api.ErrNone)
	refused(t, d, api.ErrNone, call{what: "remove", name: "a"})
	has(t, d, "b", mixed(40, 1), 40)
	if !slices.Equal(d.Names(), []string{"b"}) || d.Left() != 260 {
		t.Errorf("names %v, %d left", d.Names(), d.Left())
	}
	// Made anew, it has nothing of what was there.
	done(t, d, call{what: "make", name: "a"})
	has(t, d, "a", nil, 0)
	done(t, d, call{what: "remove", name: "b"}, call{what: "make", name: "b"}, call{what: "append", name: "b", n: 3})
	has(t, d, "b", mixed(3, 1), 0)
}

// TestLasting falls behind makings, renamings and removals: they are there without a Sync.
func TestLasting(t *testing.T) {
	d := opened(t, 300)
	done(t, d, call{what: "make", name: "a"}, call{what: "make", name: "b"}, call{what: "append", name: "b", n: 7}, call{what: "make", name: "c"}, call{what: "append", name: "c", n: 8}, call{what: "sync", name: "c"},
		call{what: "rename", name: "c", other: "e"}, call{what: "remove", name: "b"}, call{what: "make", name: "f"}, call{what: "crash"})
	if !slices.Equal(d.Names(), []string{"a", "e", "f"}) {
		t.Errorf("names: %v", d.Names())
	}
	has(t, d, "e", mixed(8, 1), 8)
}
