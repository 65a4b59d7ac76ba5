package clock_test

import (
	"math"
	"slices"
	"strconv"
	"strings"
	"testing"

	"berthmaster/api"
	"berthmaster/clock"
)

// TestWatchExamples has the chapter's examples of a watch.
func TestWatchExamples(t *testing.T) {
	w := fresh(t)
	set(t, w, 5, "a")
	set(t, w, 5, "b")
	set(t, w, 3, "a")
	ticked(t, w, 2)
	ticked(t, w, 3, "a", "b")
	has(t, w, 5)
	left(t, w, "a", 0)
	refused(t, w, api.ErrNone, call{what: "drop", name: "a"})
	refused(t, w, api.ErrArg, call{what: "set", name: "a"})
}

func TestNew(t *testing.T) {
	w := fresh(t)
	has(t, w, 0)
	left(t, w, "a", 0)
	left(t, w, "", 0)
	ticked(t, w, 0)
	ticked(t, w, 1<<20)
	has(t, w, 1<<20)
}

func TestWatchesShareNothing(t *testing.T) {
	one, two := fresh(t), fresh(t)
	set(t, one, 3, "a", "b")
	has(t, two, 0)
	set(t, two, 5, "a")
	ticked(t, two, 4)
	has(t, one, 0, "a", "b")
	left(t, one, "a", 3)
	ticked(t, one, 3, "a", "b")
	has(t, two, 4, "a")
	ticked(t, two, 1, "a")
}

func TestTickEdges(t *testing.T) {
	w := fresh(t)
	set(t, w, 1<<20, "just")
	set(t, w, 1<<20+1, "behind")
	set(t, w, 1, "a")
	for _, bad := range []int{-1, 1<<20 + 1, -2, 1<<20 + 2, 1 << 21, 1 << 32, 1<<32 + 1, -1 << 32, math.MinInt, math.MaxInt} {
		refused(t, w, api.ErrArg, call{what: "tick", n: bad})
	}
	ticked(t, w, 0)
	has(t, w, 0, "a", "behind", "just")
	left(t, w, "a", 1)
	ticked(t, w, 1<<20, "a", "just")
	left(t, w, "behind", 1)
	ticked(t, w, 0)
	ticked(t, w, 1, "behind")
	has(t, w, 1<<20+1)
	for range 5000 {
		ticked(t, w, 1<<20)
	}
	has(t, w, 5001<<20+1)
}

// TestTickByOne goes on by one at a time, and asks ahead of and behind each.
func TestTickByOne(t *testing.T) {
	w := fresh(t)
	set(t, w, 2, "two")
	set(t, w, 3, "three", "also")
	set(t, w, 5, "five")
	ticked(t, w, 1)
	left(t, w, "two", 1)
	left(t, w, "three", 2)
	ticked(t, w, 1, "two")
	left(t, w, "two", 0)
	has(t, w, 2, "also", "five", "three")
	ticked(t, w, 0)
	ticked(t, w, 1, "also", "three")
	ticked(t, w, 1)
	left(t, w, "five", 1)
	ticked(t, w, 1, "five")
	ticked(t, w, 1)
	has(t, w, 6)
}

// TestToldInOrder has names set in several orders: they are told by rising end, then by name, byte by byte.
func TestToldInOrder(t *testing.T) {
	names := []string{"\x00", "10", "9", "A", "B", "a", "a\x00", "a ", "aa", "ab", "b", "ba", "z", "ä", "\xff", "\xff\x00"}
	early, late := []string{"m", "n", "z0"}, []string{"0", "1", "~"}
	for seed := range 30 {
		d := dice(seed)
		w := fresh(t)
		l := slices.Concat(names, early, late)
		for i := len(l) - 1; i > 0; i-- {
			j := d.below(i + 1)
			l[i], l[j] = l[j], l[i]
		}
		for _, name := range l {
			switch {
			case slices.Contains(early, name):
				set(t, w, 6, name)
			case slices.Contains(late, name):
				set(t, w, 8, name)
			default:
				set(t, w, 7, name)
			}
		}
		sorted := slices.Sorted(slices.Values(l))
		has(t, w, 0, sorted...)
		ticked(t, w, 8, slices.Concat(early, names, late)...)
		has(t, w, 8)
	}
}

// TestManyNamesWithOneEnd sets many names from several readings, so that they end together.
func TestManyNamesWithOneEnd(t *testing.T) {
	const n = 3000
	w := fresh(t)
	var want []string
	for i := range n {
		name := strconv.Itoa(i * 7919 % n)
		set(t, w, n-i, name)
		want = append(want, name)
		if i < n-1 {
			ticked(t, w, 1)
		}
	}
	slices.Sort(want)
	if l := w.Names(); !slices.Equal(l, want) {
		t.Errorf("%d names, not %d", len(l), len(want))
	}
	ticked(t, w, 1, want...)
	has(t, w, n)
}

// TestJustAndBehind has names that end just at, one ahead of, and one behind what is read.
func TestJustAndBehind(t *testing.T) {
	for _, n := range []int{1, 2, 3, 100, 1<<20 - 1} {
		w := fresh(t)
		ticked(t, w, 5)
		if n > 1 {
			set(t, w, n-1, "z")
		}
		set(t, w, n, "y")
		set(t, w, n+1, "x")
		if n > 1 {
			ticked(t, w, n, "z", "y")
		} else {
			ticked(t, w, n, "y")
		}
		has(t, w, int64(n)+5, "x")
		left(t, w, "x", 1)
		ticked(t, w, 1, "x")
		ticked(t, w, 1<<20)
	}
}

func TestSetEdges(t *testing.T) {
	w := fresh(t)
	ticked(t, w, 9)
	for range 2 {
		for _, bad := range []int{0, 1<<30 + 1, -1, -2, 1<<30 + 2, 1 << 31, 1 << 32, 1<<32 + 1, -1 << 32, math.MinInt, math.MaxInt} {
			refused(t, w, api.ErrArg, call{what: "set", name: "a", n: bad}, call{what: "set", name: "none", n: bad}, call{what: "set", n: bad})
		}
		refused(t, w, api.ErrArg, call{what: "set", n: 1}, call{what: "set", n: 1 << 30}, call{what: "set"})
		// So too with an end that is there: it stays.
		set(t, w, 77, "a")
	}
	left(t, w, "a", 77)
	set(t, w, 1<<30, "far")
	left(t, w, "far", 1<<30)
	set(t, w, 1, "a")
	left(t, w, "a", 1)
	has(t, w, 9, "a", "far")
	ticked(t, w, 1, "a")
	for range 1<<10 - 1 {
		ticked(t, w, 1<<20)
	}
	ticked(t, w, 1<<20-2)
	left(t, w, "far", 1)
	set(t, w, 1<<30, "far again")
	ticked(t, w, 1, "far")
	left(t, w, "far again", 1<<30-1)
	has(t, w, 9+1<<30, "far again")
}

// TestSetAnew sets a name to an earlier, the same and a later end, among others, from the same reading and from a later one.
func TestSetAnew(t *testing.T) {
	for _, n := range []int{0, 1, 4} {
		for ticks := 1; ticks <= 20; ticks++ {
			w := fresh(t)
			set(t, w, 7, "early", "m")
			set(t, w, 10, "a", "b", "c")
			set(t, w, 13, "late", "m2")
			ticked(t, w, n)
			set(t, w, ticks, "b")
			left(t, w, "b", ticks)
			left(t, w, "a", 10-n)
			has(t, w, int64(n), "a", "b", "c", "early", "late", "m", "m2")
			plain := &model{now: int64(n), names: w.Names()}
			for _, name := range plain.names {
				end := map[string]int{"early": 7, "m": 7, "a": 10, "c": 10, "late": 13, "m2": 13, "b": n + ticks}[name]
				plain.ends = append(plain.ends, int64(end))
			}
			for range 30 {
				want, _ := plain.Tick(1)
				ticked(t, w, 1, want...)
			}
			has(t, w, int64(n)+30)
		}
	}
}

// TestSetAnewManyTimes sets one name again and again: it has one end, the last.
func TestSetAnewManyTimes(t *testing.T) {
	w := fresh(t)
	for i := range 500 {
		set(t, w, 500-i, "down")
		set(t, w, 1+i, "up")
		set(t, w, 50, "same")
	}
	has(t, w, 0, "down", "same", "up")
	ticked(t, w, 1, "down")
	ticked(t, w, 48)
	ticked(t, w, 1, "same")
	ticked(t, w, 450, "up")
	ticked(t, w, 1<<20)
}

// TestSetBehindDropAndEnd sets names that were dropped, or told: they are as new.
func TestSetBehindDropAndEnd(t *testing.T) {
	w := fresh(t)
	set(t, w, 5, "a", "b", "c")
	dropped(t, w, "a")
	left(t, w, "a", 0)
	refused(t, w, api.ErrNone, call{what: "drop", name: "a"})
	has(t, w, 0, "b", "c")
	set(t, w, 3, "a")
	left(t, w, "a", 3)
	ticked(t, w, 4, "a")
	set(t, w, 2, "a")
	left(t, w, "a", 2)
	has(t, w, 4, "a", "b", "c")
	ticked(t, w, 1, "b", "c")
	ticked(t, w, 1, "a")
	set(t, w, 1, "c")
	dropped(t, w, "c")
	ticked(t, w, 5)
	set(t, w, 1, "c", "b")
	ticked(t, w, 2, "b", "c")
	has(t, w, 13)
}

// TestDrop drops each of some names, in several orders: the others stay as they are.
func TestDrop(t *testing.T) {
	for seed := range 40 {
		d := dice(seed)
		w, plain := fresh(t), &model{}
		var names []string
		for i := range 20 {
			name := strconv.Itoa(i)
			names = append(names, name)
			ticks := 1 + d.below(9)
			set(t, w, ticks, name)
			set(t, plain, ticks, name)
		}
		for range 12 {
			i := d.below(len(names))
			dropped(t, w, names[i])
			dropped(t, plain, names[i])
			left(t, w, names[i], 0)
			refused(t, w, api.ErrNone, call{what: "drop", name: names[i]})
			names = slices.Delete(names, i, i+1)
			if a, b := told(w), told(plain); a != b {
				t.Fatalf("seed %d:\n%snot\n%s", seed, a, b)
			}
		}
		want, _ := plain.Tick(10)
		ticked(t, w, 10, want...)
	}
}

func TestDropNone(t *testing.T) {
	w := fresh(t)
	none := []call{{what: "drop"}, {what: "drop", name: "none"}, {what: "drop", name: "A"}, {what: "drop", name: "a "}, {what: "drop", name: "a\x00"}, {what: "drop", name: "aa"}}
	refused(t, w, api.ErrNone, none...)
	set(t, w, 5, "a")
	refused(t, w, api.ErrNone, none...)
	for _, c := range none {
		left(t, w, c.name, 0)
	}
	dropped(t, w, "a")
	refused(t, w, api.ErrNone, append(none, call{what: "drop", name: "a"})...)
}

// TestNames has names of all kinds: whatever is not nothing is a name.
func TestNames(t *testing.T) {
	w := fresh(t)
	long := strings.Repeat("long", 1<<16)
	want := []string{"\x00", " ", "0", "A", "a", "a\x00", "a b", long, long + "1", "ä", "日本", "\xc3", "\xff\xfe"}
	for i, name := range want {
		set(t, w, 10+i, name)
	}
	slices.Sort(want)
	has(t, w, 0, want...)
	ticked(t, w, 12, "\x00", " ", "0")
	has(t, w, 12, want[3:]...)
}

// nobodys answers watches that New didn't answer.
func nobodys(t *testing.T) []*clock.Watch {
	none, some := *fresh(t), fresh(t)
	set(t, some, 5, "a", "b")
	ticked(t, some, 2)
	copied := *some
	return []*clock.Watch{nil, {}, new(clock.Watch), &none, &copied}
}

func TestNobodysWatch(t *testing.T) {
	for _, w := range nobodys(t) {
		refused(t, w, api.ErrNil, call{what: "tick"}, call{what: "tick", n: 1}, call{what: "tick", n: 9}, call{what: "tick", n: -1}, call{what: "tick", n: 1<<20 + 1})
		refused(t, w, api.ErrNil, call{what: "set", name: "a", n: 1}, call{what: "set", name: "b"}, call{what: "set", n: 1}, call{what: "set", n: -1}, call{what: "set", name: "a", n: 1<<30 + 1}, call{what: "set"})
		refused(t, w, api.ErrNil, call{what: "drop"}, call{what: "drop", name: "a"}, call{what: "drop", name: "none"})
		has(t, w, 0)
		for _, name := range []string{"", "a", "b", "none"} {
			left(t, w, name, 0)
		}
	}
}

// TestCopiedWatchLeavesTheOther makes calls of a copy: the watch that New answered keeps what it has.
func TestCopiedWatchLeavesTheOther(t *testing.T) {
	w := fresh(t)
	set(t, w, 5, "a", "b")
	copied := *w
	copied.Tick(9)
	copied.Drop("a")
	copied.Set("b", 1)
	copied.Set("c", 1)
	has(t, w, 0, "a", "b")
	left(t, w, "b", 5)
	ticked(t, w, 5, "a", "b")
}
