package clock_test

import (
	"runtime"
	"slices"
	"strconv"
	"strings"
	"testing"
)

// spoiled changes all of a list, its spare room too.
func spoiled(l []string) {
	for i := range l[:cap(l)] {
		l[:cap(l)][i] = "spoiled"
	}
}

func TestAnswersAreNewMemory(t *testing.T) {
	w := fresh(t)
	want := []string{"a", "b", "c", "d", "e"}
	set(t, w, 5, "e", "c", "a", "d", "b")
	one, two := w.Names(), w.Names()
	spoiled(one)
	if !slices.Equal(two, want) {
		t.Errorf("two answers of Names share memory: %q", two)
	}
	has(t, w, 0, want...)
	set(t, w, 6, "f", "g")
	l, _ := w.Tick(5)
	m, _ := w.Tick(1)
	spoiled(two)
	if !slices.Equal(l, want) {
		t.Errorf("an answer of Tick shares memory with one of Names: %q", l)
	}
	spoiled(l)
	if !slices.Equal(m, []string{"f", "g"}) {
		t.Errorf("two answers of Tick share memory: %q", m)
	}
	set(t, w, 1, want...)
	spoiled(m)
	has(t, w, 6, want...)
	ticked(t, w, 1, want...)
	none, _ := w.Tick(1)
	if len(none) != 0 || len(w.Names()) != 0 {
		t.Errorf("%q and %q are told", none, w.Names())
	}
}

// TestToldAlikeAgain asks again and again: the answer is the same, whatever order a map is gone through in.
func TestToldAlikeAgain(t *testing.T) {
	var names []string
	for i := range 200 {
		names = append(names, strconv.Itoa(i))
	}
	slices.Sort(names)
	for range 10 {
		w := fresh(t)
		for i := range 200 {
			set(t, w, 5, strconv.Itoa(i*37%200))
		}
		for range 5 {
			has(t, w, 0, names...)
		}
		ticked(t, w, 5, names...)
	}
}

// heap answers how much memory is held.
func heap() int {
	var m runtime.MemStats
	runtime.GC()
	runtime.ReadMemStats(&m)
	return int(m.HeapAlloc)
}

// TestMemoryIsGivenBack sets long names many times over: those that were told or dropped don't stand on in memory, and nor do ends that others took the place of.
func TestMemoryIsGivenBack(t *testing.T) {
	const long, times = 1 << 18, 200
	for _, way := range []string{"tick", "drop", "both"} {
		w := fresh(t)
		set(t, w, 1<<30, "stays")
		before := heap()
		for i := range times {
			// Two at once, so that spare room is left behind.
			one, two := strconv.Itoa(i)+strings.Repeat("x", long), strconv.Itoa(i)+strings.Repeat("y", long)
			set(t, w, 1, one, two)
			if way == "drop" {
				dropped(t, w, one)
				dropped(t, w, two)
			} else if way == "both" {
				dropped(t, w, two)
				ticked(t, w, 1, one)
			} else {
				ticked(t, w, 1, one, two)
			}
		}
		if grown := heap() - before; grown > long {
			t.Errorf("%s: %d bytes of memory more", way, grown)
		}
		has(t, w, w.Now(), "stays")
	}
	w := fresh(t)
	before := heap()
	for i := range 1 << 20 {
		w.Set("a", 1+i%1000)
	}
	if grown := heap() - before; grown > 1<<16 {
		t.Errorf("%d bytes of memory more for one name", grown)
	}
	has(t, w, 0, "a")
}

// TestPieceOfALongText sets names that are pieces of long texts, which are then not needed any more.
func TestPieceOfALongText(t *testing.T) {
	const long, times = 1 << 18, 100
	w := fresh(t)
	before := heap()
	for i := range times {
		text := strconv.Itoa(100+i) + strings.Repeat("x", long)
		set(t, w, 1<<30, text[:3])
		// Set anew, by a piece of another one.
		set(t, w, 1<<29, strings.Clone(text)[:3])
	}
	if grown := heap() - before; grown > times*long/4 {
		t.Errorf("%d bytes of memory more", grown)
	}
	if l := w.Names(); len(l) != times {
		t.Errorf("%d names", len(l))
	}
}
