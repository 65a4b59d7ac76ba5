package clock_test

import (
	"math"
	"slices"
	"strconv"
	"testing"

	"berthmaster/api"
	"berthmaster/clock"
)

// dice rolls numbers that look like chance, the same from the same seed.
type dice uint64

func (d *dice) below(n int) int {
	*d = *d*6364136223846793005 + 1442695040888963407
	return int(uint64(*d)>>33) % n
}

// goer goes on step by step and keeps to its drift: it knows how much it is ahead of the slowest and of the fastest clock that may be, in thousandths, and the most and the least of it.
type goer struct {
	drift, slow, fast, most, least int
}

// may answers whether it keeps to the drift if it goes on by that.
func (g *goer) may(gone int) bool {
	slow, fast := g.slow+1000*gone-1000+g.drift, g.fast+1000*gone-1000-g.drift
	return slow >= g.most-2000 && fast <= g.least+2000
}

// goes goes on by one of what may be: the least of it, if wild is below 0, the most, if it is above.
func (g *goer) goes(d *dice, wild int) int {
	var l []int
	for gone := range 6 {
		if g.may(gone) {
			l = append(l, gone)
		}
	}
	gone := l[d.below(len(l))]
	switch {
	case wild < 0:
		gone = l[0]
	case wild > 0:
		gone = l[len(l)-1]
	}
	g.slow += 1000*gone - 1000 + g.drift
	g.fast += 1000*gone - 1000 - g.drift
	g.most, g.least = max(g.most, g.slow), min(g.least, g.fast)
	return gone
}

// TestLeases holds P8.4 on courses of two clocks that keep to the drift, by Keeps's own answer: whichever goes on by the wait in whatever part, the other one goes on by the lease in it.
func TestLeases(t *testing.T) {
	near := 0
	for seed := range 150 {
		d := dice(seed + 100)
		drift := []int{0, 1, 50, 100, 333, 499, 500, d.below(501)}[d.below(8)]
		one, two := goer{drift: drift}, goer{drift: drift}
		var course [][]int
		wild := 0
		for range 120 {
			if d.below(12) == 0 {
				wild = d.below(3) - 1
			}
			course = append(course, []int{one.goes(&d, wild), two.goes(&d, -wild)})
		}
		keeps(t, course, 0, drift, true)
		keeps(t, course, 1, drift, true)
		for lease := 1; lease <= 30; lease++ {
			wait, e := clock.Wait(lease, drift)
			if e != api.OK {
				t.Fatalf("Wait(%d, %d): error %d", lease, drift, e)
			}
			near += outlasts(t, course, wait, lease)
		}
	}
	if near < 20 {
		t.Errorf("%d parts are just enough", near)
	}
}

// outlasts fails the test where a clock goes on by the wait while the other one doesn't by the lease, and answers in how many parts it just did.
func outlasts(t *testing.T, course [][]int, wait, lease int) (near int) {
	t.Helper()
	for from := range course {
		var gone [2]int
		for _, step := range course[from:] {
			gone[0] += step[0]
			gone[1] += step[1]
			for i := range gone {
				if gone[i] < wait {
					continue
				}
				if gone[1-i] < lease {
					t.Fatalf("one goes on by %d, the other one by %d: the wait of %d is %d", gone[i], gone[1-i], lease, wait)
				}
				if gone[i] == wait && gone[1-i] == lease {
					near++
				}
			}
		}
	}
	return near
}

// TestWaitIsNeeded has two clocks without drift, of which one goes on by one less than the wait, while the other one does not by the lease.
func TestWaitIsNeeded(t *testing.T) {
	for lease := 1; lease <= 20; lease++ {
		wait, _ := clock.Wait(lease, 0)
		// In lease + 1 steps: the one goes on by 2 more, the other one by 2 fewer.
		course := [][]int{{3, 0}, {1, 0}}
		for range lease - 1 {
			course = append(course, []int{1, 1})
		}
		keeps(t, course, 0, 0, true)
		keeps(t, course, 1, 0, true)
		if lease+3 != wait-1 {
			t.Errorf("the wait of %d is %d", lease, wait)
		}
	}
}

// rolled answers a call of whatever kind, some wrong, with few names and ends, so that many fall together.
func rolled(d *dice) call {
	names := []string{"a", "b", "c", "d", "e", "f", "aa", "ab", "a\x00", "\xff", "ä", "A", ""}
	ticks := []int{1, 2, 3, 4, 5, 6, 7, 8, 9, 10, 5, 5, 5, 5, 20, 30, 1 << 30, 0, -1, 1<<30 + 1, math.MinInt}
	steps := []int{0, 1, 1, 1, 2, 3, 5, 10, -1, 1<<20 + 1}
	c := call{what: []string{"tick", "set", "set", "set", "drop"}[d.below(5)], name: names[d.below(len(names))]}
	switch c.what {
	case "tick":
		c.n = steps[d.below(len(steps))]
	case "set":
		c.n = ticks[d.below(len(ticks))]
	}
	return c
}

// TestAsTheModel makes the same calls of two watches and of the model: they answer alike, and then tell alike.
func TestAsTheModel(t *testing.T) {
	count := map[string]*[api.ErrNone + 1]int{"tick": {}, "set": {}, "drop": {}}
	names := 0
	for seed := range 300 {
		d := dice(seed)
		real, twin, plain := fresh(t), fresh(t), &model{}
		for i := range 200 {
			c := rolled(&d)
			one, two, want := made(real, c), made(twin, c), made(plain, c)
			if one != want || two != want {
				t.Fatalf("seed %d, call %d, %v: %v and %v, not %v", seed, i, c, one, two, want)
			}
			count[c.what][want.e]++
			if want.names != spelt(nil) {
				names++
			}
			if a, b := told(real, "a", "", "none"), told(plain, "a", "", "none"); a != b || told(twin, "a", "", "none") != b {
				t.Fatalf("seed %d, behind call %d, %v:\n%snot\n%s", seed, i, c, a, b)
			}
		}
	}
	if names < 1000 || count["tick"][api.ErrArg] < 100 || count["set"][api.ErrArg] < 100 || count["drop"][api.ErrNone] < 100 || count["drop"][api.OK] < 100 {
		t.Errorf("%d ticks told names; by errors: %v", names, count)
	}
}

// TestAsTheModelWithManyNames does so with names enough that the heap is deep, that are set anew and dropped at all of its places.
func TestAsTheModelWithManyNames(t *testing.T) {
	for seed := range 12 {
		d := dice(seed + 1000)
		real, plain := fresh(t), &model{}
		for i := range 1500 {
			c := call{what: "set", name: "n" + strconv.Itoa(d.below(400)), n: 1 + d.below(120)}
			switch d.below(10) {
			case 0, 1:
				c = call{what: "drop", name: c.name}
			case 2:
				c = call{what: "tick", n: d.below(4)}
			}
			if one, want := made(real, c), made(plain, c); one != want {
				t.Fatalf("seed %d, call %d, %v: %v, not %v", seed, i, c, one, want)
			}
		}
		if a, b := told(real), told(plain); a != b {
			t.Fatalf("seed %d:\n%snot\n%s", seed, a, b)
		}
		if one, want := made(real, call{what: "tick", n: 200}), made(plain, call{what: "tick", n: 200}); one != want {
			t.Fatalf("seed %d: %v, not %v", seed, one, want)
		}
	}
}

// TestToldByOneTick holds P8.5 by what is handed in and answered alone: each Set of a name that isn't set anew or dropped is told by just one Tick, the first at or behind its end.
func TestToldByOneTick(t *testing.T) {
	names := 0
	for seed := range 100 {
		d := dice(seed + 3000)
		w := fresh(t)
		now, ends := int64(0), map[string]int64{}
		for i := range 300 {
			c := rolled(&d)
			l, e := []string(nil), api.OK
			switch c.what {
			case "tick":
				l, e = w.Tick(c.n)
				if e == api.OK {
					now += int64(c.n)
				}
			case "set":
				if w.Set(c.name, c.n) == api.OK {
					ends[c.name] = now + int64(c.n)
				}
			case "drop":
				w.Drop(c.name)
				delete(ends, c.name)
			}
			for _, name := range l {
				if end, is := ends[name]; !is || end > now {
					t.Fatalf("seed %d, call %d: at %d %q is told, that ends at %d %t", seed, i, now, name, end, is)
				}
				delete(ends, name)
				names++
			}
			for name, end := range ends {
				if left, is := w.Left(name); end <= now || int64(left) != end-now || !is {
					t.Fatalf("seed %d, call %d: at %d %q wasn't told, that ends at %d: Left %d %t", seed, i, now, name, end, left, is)
				}
			}
			if w.Now() != now || len(w.Names()) != len(ends) || !slices.IsSorted(w.Names()) {
				t.Fatalf("seed %d, call %d: at %d, not %d, %q", seed, i, w.Now(), now, w.Names())
			}
		}
	}
	if names < 1000 {
		t.Errorf("%d names were told", names)
	}
}
