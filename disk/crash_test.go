package disk_test

import (
	"math"
	"runtime"
	"slices"
	"testing"

	"berthmaster/api"
	"berthmaster/disk"
)

// three answers a disk whose files a, b, c have 10, 0 and 20 synced bytes, and 5, 6 and 0 loose ones.
func three(t *testing.T) *disk.Disk {
	d := opened(t, 1000)
	done(t, d, call{what: "make", name: "c"}, call{what: "append", name: "c", n: 20}, call{what: "sync", name: "c"}, call{what: "make", name: "b"}, call{what: "append", name: "b", n: 6},
		call{what: "make", name: "a"}, call{what: "append", name: "a", n: 10}, call{what: "sync", name: "a"}, call{what: "append", name: "a", n: 5})
	return d
}

func TestCrash(t *testing.T) {
	a := append(mixed(10, 1), mixed(5, 1)...)
	for _, c := range []struct {
		keep []int
		a, b int // how many bytes they have then
	}{
		{nil, 10, 0},
		{[]int{}, 10, 0},
		{[]int{0}, 10, 0},
		{[]int{0, 0, 0}, 10, 0},
		{[]int{3}, 13, 0},
		{[]int{5}, 15, 0},
		{[]int{6}, 15, 0},
		{[]int{math.MaxInt}, 15, 0},
		{[]int{0, 1}, 10, 1},
		{[]int{1, 5}, 11, 5},
		{[]int{4, 6}, 14, 6},
		{[]int{4, 7}, 14, 6},
		{[]int{0, math.MaxInt}, 10, 6},
		{[]int{5, 6, 9}, 15, 6},
		{[]int{math.MaxInt, math.MaxInt, math.MaxInt, math.MaxInt, 7}, 15, 6},
		{[]int{2, 2, 2, 2, 2, 0}, 12, 2},
	} {
		for _, off := range []bool{false, true} {
			d := three(t)
			if off {
				done(t, d, call{what: "fuse"})
				d.Sync("a")
			}
			counted(t, d, 0, call{what: "crash", keep: c.keep})
			has(t, d, "a", a[:c.a], c.a)
			has(t, d, "b", mixed(6, 1)[:c.b], c.b)
			has(t, d, "c", mixed(20, 1), 20)
			if !d.On() || d.Left() != 980-c.a-c.b || !slices.Equal(d.Names(), []string{"a", "b", "c"}) {
				t.Errorf("Crash of %v: %s", c.keep, told(d))
			}
		}
	}
}

func TestCrashArgument(t *testing.T) {
	for _, keep := range [][]int{{-1}, {0, -1}, {3, 3, -1}, {1, 1, 1, 1, -1}, {math.MinInt}, {-1, 5}, {5, math.MinInt, 5}} {
		d := three(t)
		refused(t, d, api.ErrArg, call{what: "crash", keep: keep})
		// Off, it stays off, and loses nothing.
		done(t, d, call{what: "fuse"})
		d.Sync("a")
		refused(t, d, api.ErrArg, call{what: "crash", keep: keep})
		if d.On() {
			t.Errorf("Crash of %v, refused, turned the disk on", keep)
		}
		done(t, d, call{what: "crash", keep: []int{5, 6}})
		has(t, d, "a", append(mixed(10, 1), mixed(5, 1)...), 15)
		has(t, d, "b", mixed(6, 1), 6)
	}
	// Refused, it leaves the fuse.
	d := three(t)
	done(t, d, call{what: "fuse"})
	refused(t, d, api.ErrArg, call{what: "crash", keep: []int{-1}})
	if e := d.Sync("a"); e != api.ErrOff {
		t.Errorf("Sync: error %d", e)
	}
	// Without files it is refused too.
	refused(t, opened(t, 0), api.ErrArg, call{what: "crash", keep: []int{-1}})
}

func TestCrashTakesTheFuse(t *testing.T) {
	d := three(t)
	done(t, d, call{what: "fuse", n: 2}, call{what: "crash"})
	for range 5 {
		done(t, d, call{what: "sync", name: "a"})
	}
}

// TestCrashAgain writes on behind a crash: what was lost doesn't come back, what was kept stays.
func TestCrashAgain(t *testing.T) {
	d := three(t)
	done(t, d, call{what: "crash", keep: []int{2, 3}}, call{what: "append", name: "a", n: 70}, call{what: "crash", keep: []int{66}}, call{what: "crash"})
	a := slices.Concat(mixed(10, 1), mixed(2, 1), mixed(66, 1))
	has(t, d, "a", a, 78)
	has(t, d, "b", mixed(3, 1), 3)
	done(t, d, call{what: "append", name: "a", n: 4}, call{what: "rename", name: "a", other: "x"}, call{what: "crash", keep: []int{9, 9, 1}})
	has(t, d, "x", append(a, mixed(1, 1)...), 79)
	if d.Left() != 1000-79-20-3 {
		t.Errorf("%d left", d.Left())
	}
}

// TestCrashGivesMemoryBack loses many times the room: what is lost doesn't stand on in memory.
func TestCrashGivesMemoryBack(t *testing.T) {
	const room, times = 1 << 20, 40
	d := opened(t, room)
	b := make([]byte, room)
	before := heap()
	for i := range times {
		name := string([]byte{'!' + byte(i)})
		if d.Make(name) != api.OK || d.Append(name, b) != api.OK || d.Crash(nil) != api.OK || d.Left() != room {
			t.Fatalf("%d left", d.Left())
		}
	}
	if grown := heap() - before; grown > times*room/4 {
		t.Errorf("%d bytes of memory more for a room of %d", grown, room)
	}
	done(t, d, call{what: "make", name: "z"})
}

// heap answers how much memory is held.
func heap() int {
	var m runtime.MemStats
	runtime.GC()
	runtime.ReadMemStats(&m)
	return int(m.HeapAlloc)
}

func TestTurn(t *testing.T) {
	want := append(mixed(10, 1), mixed(5, 1)...)
	d := three(t)
	for at := range 15 {
		for _, bits := range []byte{0, 1, 128, 255, 0xA5} {
			if e := d.Turn("a", at, bits); e != api.OK {
				t.Errorf("Turn at %d: error %d", at, e)
			}
			want[at] ^= bits
			has(t, d, "a", want, 10)
		}
	}
	has(t, d, "b", mixed(6, 1), 0)
	has(t, d, "c", mixed(20, 1), 20)
	refused(t, d, api.ErrNone, call{what: "turn", name: "a", n: 15}, call{what: "turn", name: "a", n: -1}, call{what: "turn", name: "a", n: math.MaxInt}, call{what: "turn", name: "a", n: math.MinInt},
		call{what: "turn", name: "e"}, call{what: "turn", name: "e", n: -1}, call{what: "turn", name: "c", n: 20})
	// Off too; and it is no step, so the fuse doesn't stop it.
	done(t, d, call{what: "fuse"}, call{what: "turn", name: "a", n: 14})
	want[14] ^= 14*7 + 1
	d.Sync("a")
	done(t, d, call{what: "turn", name: "a", n: 11}, call{what: "turn", name: "c", n: 0})
	want[11] ^= 11*7 + 1
	if d.On() {
		t.Errorf("Turn turned the disk on")
	}
	done(t, d, call{what: "crash", keep: []int{9}})
	has(t, d, "a", want, 15)
	c := mixed(20, 1)
	c[0] ^= 1
	has(t, d, "c", c, 20)
	if d.Steps() != 9 {
		t.Errorf("%d steps", d.Steps())
	}
}

func TestTurnOfNoBytes(t *testing.T) {
	d := opened(t, 10)
	done(t, d, call{what: "make", name: "a"})
	refused(t, d, api.ErrNone, call{what: "turn", name: "a"}, call{what: "turn", name: "a", n: -1}, call{what: "turn", name: "a", n: 1})
	// A byte that a crash lost is no more.
	done(t, d, call{what: "append", name: "a", n: 5}, call{what: "crash", keep: []int{2}})
	refused(t, d, api.ErrNone, call{what: "turn", name: "a", n: 2})
	done(t, d, call{what: "turn", name: "a", n: 1})
}
