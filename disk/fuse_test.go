package disk_test

import (
	"math"
	"testing"

	"berthmaster/api"
)

func TestFuse(t *testing.T) {
	for n := range 12 {
		d := opened(t, 1000)
		done(t, d, call{what: "make", name: "a"}, call{what: "fuse", n: n})
		for range n {
			counted(t, d, 1, call{what: "sync", name: "a"})
		}
		if !d.On() {
			t.Errorf("a fuse of %d: off without a step more", n)
		}
		if e := d.Sync("a"); e != api.ErrOff || d.On() || d.Steps() != 1+n {
			t.Errorf("a fuse of %d: error %d, on: %v, %d steps", n, e, d.On(), d.Steps())
		}
		if e := d.Sync("a"); e != api.ErrOff || d.Steps() != 1+n {
			t.Errorf("off already: error %d, %d steps", e, d.Steps())
		}
	}
}

// TestFuseOfEachStep stops each kind of step: nothing of it is done.
func TestFuseOfEachStep(t *testing.T) {
	for _, c := range []call{{what: "make", name: "c"}, {what: "append", name: "a", n: 1}, {what: "append", name: "a", n: 64}, {what: "append", name: "a", n: 65}, {what: "sync", name: "a"},
		{what: "rename", name: "a", other: "b"}, {what: "rename", name: "a", other: "c"}, {what: "remove", name: "b"}} {
		d := opened(t, 1000)
		done(t, d, call{what: "make", name: "a"}, call{what: "append", name: "a", n: 10}, call{what: "sync", name: "a"}, call{what: "append", name: "a", n: 10}, call{what: "make", name: "b"}, call{what: "append", name: "b", n: 3}, call{what: "sync", name: "b"})
		all := append(mixed(10, 1), mixed(10, 1)...)
		done(t, d, call{what: "fuse"})
		if e := made(d, c); e != api.ErrOff || d.On() || d.Steps() != 7 {
			t.Errorf("%v: error %d, on: %v, %d steps", c, e, d.On(), d.Steps())
		}
		done(t, d, call{what: "crash", keep: []int{7}})
		has(t, d, "a", all[:17], 17)
		has(t, d, "b", mixed(3, 1), 3)
		if len(d.Names()) != 2 || d.Left() != 980 {
			t.Errorf("%v: names %v, %d left", c, d.Names(), d.Left())
		}
	}
}

// TestFuseWithinAppend stops an Append at each of its steps: those ahead are done.
func TestFuseWithinAppend(t *testing.T) {
	for _, n := range []int{1, 63, 64, 65, 128, 200} {
		steps := (n + 63) / 64
		for fuse := range steps + 2 {
			d := opened(t, 1000)
			done(t, d, call{what: "make", name: "a"}, call{what: "append", name: "a", n: 5}, call{what: "fuse", n: fuse})
			want, there := api.ErrOff, min(64*fuse, n)
			if fuse >= steps {
				want = api.OK
			}
			if e := made(d, call{what: "append", name: "a", n: n}); e != want || d.On() != (want == api.OK) || d.Steps() != 2+min(fuse, steps) {
				t.Errorf("%d bytes with a fuse of %d: error %d, on: %v, %d steps", n, fuse, e, d.On(), d.Steps())
			}
			done(t, d, call{what: "crash", keep: []int{1000}})
			has(t, d, "a", append(mixed(5, 1), mixed(n, 1)[:there]...), 5+there)
			if d.Left() != 995-there {
				t.Errorf("%d bytes with a fuse of %d: %d left", n, fuse, d.Left())
			}
		}
	}
}

func TestFuseArgument(t *testing.T) {
	d := opened(t, 1000)
	done(t, d, call{what: "make", name: "a"})
	refused(t, d, api.ErrArg, call{what: "fuse", n: -1}, call{what: "fuse", n: -2}, call{what: "fuse", n: math.MinInt})
	done(t, d, call{what: "sync", name: "a"}, call{what: "fuse", n: 1})
	// Refused, it leaves the fuse that there is.
	refused(t, d, api.ErrArg, call{what: "fuse", n: -1})
	done(t, d, call{what: "sync", name: "a"})
	if e := d.Sync("a"); e != api.ErrOff {
		t.Errorf("Sync: error %d", e)
	}
}

func TestFuseAnew(t *testing.T) {
	d := opened(t, 1000)
	done(t, d, call{what: "make", name: "a"}, call{what: "fuse", n: 1}, call{what: "fuse", n: 3}, call{what: "sync", name: "a"}, call{what: "sync", name: "a"}, call{what: "fuse", n: 2},
		call{what: "sync", name: "a"}, call{what: "sync", name: "a"}, call{what: "fuse", n: math.MaxInt}, call{what: "sync", name: "a"}, call{what: "fuse", n: 0})
	if e := d.Sync("a"); e != api.ErrOff || d.On() {
		t.Errorf("Sync: error %d", e)
	}
}

// TestFuseAsks burns nothing of a fuse by what is no step.
func TestFuseAsks(t *testing.T) {
	d := opened(t, 10)
	done(t, d, call{what: "make", name: "a"}, call{what: "fuse", n: 1})
	for range 3 {
		told(d, "a", "b", "")
		made(d, call{what: "make", name: "a"})
		made(d, call{what: "make", name: ""})
		made(d, call{what: "append", name: "a", n: 11})
		made(d, call{what: "append", name: "a"})
		made(d, call{what: "rename", name: "a", other: "a"})
		made(d, call{what: "remove", name: "b"})
		made(d, call{what: "sync", name: "b"})
		made(d, call{what: "turn", name: "a"})
	}
	done(t, d, call{what: "append", name: "a", n: 1})
	if e := d.Sync("a"); e != api.ErrOff {
		t.Errorf("Sync: error %d", e)
	}
}

func TestFree(t *testing.T) {
	d := opened(t, 1000)
	done(t, d, call{what: "free"}, call{what: "make", name: "a"}, call{what: "fuse"}, call{what: "free"}, call{what: "sync", name: "a"}, call{what: "fuse", n: 1}, call{what: "sync", name: "a"}, call{what: "free"})
	for range 100 {
		done(t, d, call{what: "sync", name: "a"})
	}
	// Off, it stays off without a fuse.
	done(t, d, call{what: "fuse"})
	d.Sync("a")
	done(t, d, call{what: "free"})
	if d.On() || d.Sync("a") != api.ErrOff {
		t.Errorf("Free turned the disk on")
	}
	done(t, d, call{what: "crash"}, call{what: "sync", name: "a"})
}

func TestSteps(t *testing.T) {
	d := opened(t, 1000)
	done(t, d, call{what: "make", name: "a"}, call{what: "append", name: "a", n: 129}, call{what: "sync", name: "a"}, call{what: "rename", name: "a", other: "b"}, call{what: "remove", name: "b"})
	if d.Steps() != 7 {
		t.Errorf("%d steps", d.Steps())
	}
	done(t, d, call{what: "fuse"})
	d.Make("a")
	if d.Steps() != 7 {
		t.Errorf("%d steps of a disk that is off", d.Steps())
	}
	done(t, d, call{what: "crash"}, call{what: "free"}, call{what: "make", name: "a"})
	if d.Steps() != 8 {
		t.Errorf("%d steps behind a crash", d.Steps())
	}
}
