package disk_test

import (
	"bytes"
	"math"
	"slices"
	"strings"
	"testing"

	"berthmaster/api"
)

// dice rolls numbers that look like chance, the same from the same seed.
type dice uint64

func (d *dice) below(n int) int {
	*d = *d*6364136223846793005 + 1442695040888963407
	return int(uint64(*d)>>33) % n
}

// rolled answers a call of whatever kind; some are wrong.
func rolled(d *dice) call {
	names := []string{"a", "b", "c", "e", "a", "b", "c", "", "a b", strings.Repeat("n", 24), strings.Repeat("n", 25), "\x7f"}
	c := call{name: names[d.below(len(names))], other: names[d.below(len(names))]}
	kinds := []string{"make", "make", "append", "append", "append", "append", "sync", "sync", "rename", "remove", "turn", "crash", "fuse", "free"}
	c.what = kinds[d.below(len(kinds))]
	numbers := []int{d.below(4), d.below(70), d.below(200), 0, 1, 63, 64, 65, 128, -1}
	c.n = numbers[d.below(len(numbers))]
	switch c.what {
	case "append":
		c.n = max(c.n, 0)
	case "fuse":
		c.n = d.below(20) - 1
	case "crash":
		lot := []int{0, 1, 2, 30, 64, math.MaxInt}
		for range d.below(6) {
			c.keep = append(c.keep, lot[d.below(len(lot))])
		}
		if d.below(12) == 0 {
			c.keep = append(c.keep, -1)
		}
	}
	return c
}

// TestAsTheModel makes the same calls of a disk and of the model: they answer alike, and then tell alike.
func TestAsTheModel(t *testing.T) {
	var errors [api.ErrOff + 1]int
	for seed := range 400 {
		d := dice(seed)
		room := []int{0, 1, 64, 100, 300, 2000}[seed%6]
		real, twin, plain := opened(t, room), opened(t, room), modelled(room)
		for i := range 150 {
			c := rolled(&d)
			one, two, want := made(real, c), made(twin, c), made(plain, c)
			if one != want || two != want {
				t.Fatalf("seed %d, call %d, %v: errors %d and %d, not %d", seed, i, c, one, two, want)
			}
			errors[want]++
			if a, b := told(real, c.name, c.other), told(plain, c.name, c.other); a != b || told(twin, c.name, c.other) != b {
				t.Fatalf("seed %d, behind call %d, %v:\n%snot\n%s", seed, i, c, a, b)
			}
			held(t, real, room)
			if plain.off && d.below(3) == 0 {
				done(t, real, call{what: "crash", keep: []int{1, 2, 70}})
				done(t, twin, call{what: "crash", keep: []int{1, 2, 70}})
				done(t, plain, call{what: "crash", keep: []int{1, 2, 70}})
			}
		}
	}
	for _, e := range []api.Errno{api.OK, api.ErrArg, api.ErrNone, api.ErrThere, api.ErrFull, api.ErrOff} {
		if errors[e] < 100 {
			t.Errorf("error %d was answered %d times only", e, errors[e])
		}
	}
}

// held fails the test if a disk that is on has not just room less what is left.
func held(t *testing.T, d holder, room int) {
	t.Helper()
	n := 0
	for _, name := range d.Names() {
		b, _ := d.Read(name)
		n += len(b)
	}
	if n > room || d.On() && n != room-d.Left() {
		t.Fatalf("%d bytes of %d, %d left", n, room, d.Left())
	}
}

// TestSyncedIsThere falls behind each of many calls, with much of what is loose kept, or little: what was synced is there, with a first part of what was loose.
func TestSyncedIsThere(t *testing.T) {
	for seed := range 300 {
		d := dice(seed)
		real := opened(t, 3000)
		for range 120 {
			made(real, rolled(&d))
			if !real.On() {
				real.Crash([]int{d.below(90), d.below(90)})
			}
			if d.below(4) > 0 {
				continue
			}
			fell(t, real, []int{d.below(9), d.below(200), d.below(50)}[:d.below(4)])
		}
	}
}

// fell lets the disk fall, and fails the test unless each file keeps what it must.
func fell(t *testing.T, d holder, keep []int) {
	t.Helper()
	names := d.Names()
	all, synced := map[string][]byte{}, map[string]int{}
	for _, name := range names {
		all[name], _ = d.Read(name)
		synced[name], _ = d.Synced(name)
	}
	if e := d.Crash(keep); e != api.OK || !slices.Equal(d.Names(), names) {
		t.Fatalf("Crash of %v: error %d, names %v, not %v", keep, e, d.Names(), names)
	}
	for i, name := range names {
		more := 0
		if i < len(keep) {
			more = keep[i]
		}
		b, _ := d.Read(name)
		if !bytes.HasPrefix(all[name], b) || len(b) != min(synced[name]+more, len(all[name])) {
			t.Fatalf("%q: %d bytes of %d, %d of them synced, %d to be kept", name, len(b), len(all[name]), synced[name], more)
		}
		if n, e := d.Synced(name); n != len(b) || e != api.OK {
			t.Fatalf("%q: %d of %d synced, error %d", name, n, len(b), e)
		}
	}
}

// TestFuseIsNotFelt runs one script with each fuse: up to the step that is not done, it is as without one.
func TestFuseIsNotFelt(t *testing.T) {
	for seed := range 25 {
		script := fuseless(seed)
		free := opened(t, 1500)
		for _, c := range script {
			made(free, c)
		}
		total := free.Steps()
		for fuse := range total + 2 {
			burned(t, script, fuse, total)
		}
	}
}

// fuseless answers calls that neither fall nor touch the fuse.
func fuseless(seed int) []call {
	d := dice(seed)
	var l []call
	for range 60 {
		if c := rolled(&d); c.what != "crash" && c.what != "fuse" && c.what != "free" {
			l = append(l, c)
		}
	}
	return l
}

// burned runs a script of so many steps with that fuse, beside a disk without one.
func burned(t *testing.T, script []call, fuse, total int) {
	t.Helper()
	d, free := opened(t, 1500), opened(t, 1500)
	done(t, d, call{what: "fuse", n: fuse})
	for _, c := range script {
		want := made(free, c)
		e := made(d, c)
		if free.Steps() <= fuse {
			if e != want || told(d) != told(free) {
				t.Fatalf("a fuse of %d: %v: error %d, not %d:\n%s%s", fuse, c, e, want, told(d), told(free))
			}
			continue
		}
		if e != api.ErrOff || d.On() || d.Steps() != fuse {
			t.Fatalf("a fuse of %d, behind its end: %v: error %d, %d steps", fuse, c, e, d.Steps())
		}
		return
	}
	if fuse < total {
		t.Fatalf("a fuse of %d didn't burn down in %d steps", fuse, total)
	}
}

// TestLastSteps holds what is there behind a fuse's end against a disk where just those steps were done.
func TestLastSteps(t *testing.T) {
	everything := []int{math.MaxInt, math.MaxInt, math.MaxInt, math.MaxInt, math.MaxInt, math.MaxInt}
	for seed := range 60 {
		script := fuseless(seed)
		for fuse := range 40 {
			d, plain := opened(t, 1500), modelled(1500)
			done(t, d, call{what: "fuse", n: fuse})
			done(t, plain, call{what: "fuse", n: fuse})
			for _, c := range script {
				made(d, c)
				made(plain, c)
			}
			keep := everything[:seed%7]
			done(t, d, call{what: "crash", keep: keep})
			done(t, plain, call{what: "crash", keep: keep})
			if told(d) != told(plain) {
				t.Fatalf("seed %d, a fuse of %d:\n%snot\n%s", seed, fuse, told(d), told(plain))
			}
		}
	}
}
