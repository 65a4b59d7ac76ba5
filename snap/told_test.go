package snap_test

import (
	"bytes"
	"runtime"
	"slices"
	"testing"

	"berthmaster/api"
)

// TestLog logs records: they are the journal's, and so are their errors.
func TestLog(t *testing.T) {
	d := fresh(t, 1<<20)
	s := opened(t, d, "m")
	var l [][]byte
	for i := range 60 {
		l = append(l, mixed(i*31, i))
		logged(t, s, uint64(i)+1, l[i])
		has(t, s, nil, 1, l...)
	}
	logged(t, s, 61, mixed(65536, 1))
	l = append(l, mixed(65536, 1))
	before := seen(d)
	for _, n := range []int{65537, 65538, 1 << 20} {
		if number, e := s.Log(make([]byte, n)); number != 0 || e != api.ErrLong || seen(d) != before {
			t.Errorf("Log of %d bytes: %d, error %d", n, number, e)
		}
	}
	has(t, s, nil, 1, l...)
	has(t, opened(t, d, "m"), nil, 1, l...)
}

// TestSync syncs what was logged, which is lost else.
func TestSync(t *testing.T) {
	d := fresh(t, 1<<20)
	s := opened(t, d, "m")
	fine(t, s.Sync())
	logged(t, s, 1, []byte("a"), []byte("b"))
	contains(t, d, "m-000000000001", slices.Concat(of("a"), of("b")), 0)
	steps := d.Steps()
	fine(t, s.Sync())
	contains(t, d, "m-000000000001", slices.Concat(of("a"), of("b")), 26)
	if d.Steps() != steps+1 {
		t.Errorf("%d steps", d.Steps()-steps)
	}
	logged(t, s, 3, []byte("c"))
	fine(t, d.Crash([]int{12}))
	has(t, opened(t, d, "m"), nil, 1, texts("a", "b")...)
}

// TestLogFuse has the disk go off at each step of a Log and a Sync: that is the end.
func TestLogFuse(t *testing.T) {
	for fuse := range 200 {
		d := fresh(t, 1<<20)
		s := opened(t, d, "m")
		logged(t, s, 1, []byte("a"))
		fine(t, s.Save([]byte("A")))
		logged(t, s, 2, mixed(4090, 2))
		fine(t, d.Fuse(fuse))
		n, e := s.Log(mixed(5000, 3))
		if e == api.OK {
			// A sync of the full segment, a making, and 79 writes.
			if n != 3 || fuse < 81 {
				t.Errorf("a fuse of %d: %d", fuse, n)
			}
			if e = s.Sync(); e == api.OK {
				if fuse != 82 {
					t.Errorf("a fuse of %d is not felt", fuse)
				}
				has(t, s, []byte("A"), 2, mixed(4090, 2), mixed(5000, 3))
				break
			}
			has(t, s, []byte("A"), 2, mixed(4090, 2), mixed(5000, 3))
		} else {
			if n != 0 || fuse >= 81 {
				t.Errorf("a fuse of %d: %d, error %d", fuse, n, e)
			}
			has(t, s, []byte("A"), 2, mixed(4090, 2))
		}
		if e != api.ErrOff || d.On() {
			t.Errorf("a fuse of %d: error %d", fuse, e)
		}
		ended(t, d, s)
	}
}

// TestSinceWithin has the snapshot end within the first segment, and goes on over several.
func TestSinceWithin(t *testing.T) {
	d := fresh(t, 1<<20)
	s := opened(t, d, "m")
	logged(t, s, 1, texts("a", "b", "c")...)
	fine(t, s.Save([]byte("ABC")))
	has(t, s, []byte("ABC"), 4)
	l := [][]byte{[]byte("d"), mixed(5000, 1), nil, mixed(5000, 2), []byte("h")}
	for i, b := range l {
		logged(t, s, uint64(i)+4, b)
		has(t, s, []byte("ABC"), 4, l[:i+1]...)
		has(t, opened(t, d, "m"), []byte("ABC"), 4, l[:i+1]...)
	}
	files(t, d, "m-000000000001", "m-000000000006", "m-000000000008", "m-snap-000000000004")
}

// spoiled changes all bytes of b, its spare room too.
func spoiled(b []byte) {
	for i := range b[:cap(b)] {
		b[:cap(b)][i] ^= 255
	}
}

func TestAnswersAreNewMemory(t *testing.T) {
	d := fresh(t, 1<<20)
	s := opened(t, d, "m")
	logged(t, s, 1, []byte("ahead"))
	fine(t, s.Save(mixed(100, 9)))
	l := [][]byte{[]byte("a"), mixed(70, 1), nil, mixed(5000, 2), mixed(20, 3)}
	logged(t, s, 2, l...)
	for range 2 {
		one, _, _ := s.Snapshot()
		two, _, _ := s.Snapshot()
		spoiled(one)
		if !bytes.Equal(two, mixed(100, 9)) {
			t.Errorf("two answers of Snapshot share memory")
		}
		all, other := s.Since(), s.Since()
		spoiled(all[0])
		if !slices.EqualFunc(all[1:], l[1:], bytes.Equal) {
			t.Errorf("two records of one answer share memory")
		}
		for i := range all {
			spoiled(all[i])
		}
		for i := range all[:cap(all)] {
			all[:cap(all)][i] = nil
		}
		if !slices.EqualFunc(other, l, bytes.Equal) {
			t.Errorf("two answers of Since share memory")
		}
		has(t, s, mixed(100, 9), 2, l...)
		s = opened(t, d, "m")
	}
	// What was answered doesn't change later.
	b, _, _ := s.Snapshot()
	since := s.Since()
	fine(t, s.Save(mixed(100, 8)))
	if !bytes.Equal(b, mixed(100, 9)) || !slices.EqualFunc(since, l, bytes.Equal) {
		t.Errorf("an answer changed later")
	}
}

func TestWhatIsHandedInStaysAsItWas(t *testing.T) {
	d := fresh(t, 1<<20)
	s := opened(t, d, "m")
	memory := mixed(300, 9)
	b := memory[:130]
	logged(t, s, 1, b, b[3:9])
	fine(t, s.Save(b), s.Save(b[:0]), s.Save(b[5:100]))
	logged(t, s, 3, b, b[3:9], b[:0])
	if !bytes.Equal(memory, mixed(300, 9)) {
		t.Errorf("what was handed in is changed")
	}
	spoiled(b)
	for _, s := range []store{s, opened(t, d, "m")} {
		has(t, s, mixed(130, 9)[5:100], 3, mixed(130, 9), mixed(130, 9)[3:9], nil)
	}
}

// TestMemoryGoesBack saves many times more than is there at once.
func TestMemoryGoesBack(t *testing.T) {
	const size, times = 60000, 300
	d := fresh(t, 10*size)
	s := opened(t, d, "m")
	b := make([]byte, size)
	before := heap()
	for range times {
		logged(t, s, s.Next(), b)
		fine(t, s.Save(b))
	}
	if grown := heap() - before; grown > size*times/4 {
		t.Errorf("%d bytes of memory more", grown)
	}
	runtime.KeepAlive(s)
}

// heap answers how much memory is held.
func heap() int {
	var m runtime.MemStats
	runtime.GC()
	runtime.ReadMemStats(&m)
	return int(m.HeapAlloc)
}
