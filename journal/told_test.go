package journal_test

import (
	"bytes"
	"runtime"
	"slices"
	"testing"

	"berthmaster/api"
	"berthmaster/journal"
)

func TestSync(t *testing.T) {
	d := fresh(t, 1<<20)
	j := opened(t, d, "log")
	// Without a segment it is no step.
	fine(t, d.Fuse(0), j.Sync(), d.Free())
	if d.Steps() != 0 || !d.On() {
		t.Errorf("%d steps, on: %v", d.Steps(), d.On())
	}
	appended(t, j, 1, []byte("a"), []byte("b"))
	contains(t, d, "log-000000000001", slices.Concat(of("a"), of("b")), 0)
	for range 3 {
		steps := d.Steps()
		fine(t, j.Sync())
		contains(t, d, "log-000000000001", slices.Concat(of("a"), of("b")), 26)
		if d.Steps() != steps+1 {
			t.Errorf("%d steps", d.Steps()-steps)
		}
	}
	appended(t, j, 3, mixed(5000, 1), []byte("d"))
	contains(t, d, "log-000000000004", of("d"), 0)
	steps := d.Steps()
	fine(t, j.Sync())
	contains(t, d, "log-000000000004", of("d"), 13)
	if d.Steps() != steps+1 {
		t.Errorf("%d steps", d.Steps()-steps)
	}
	fine(t, d.Crash(nil))
	has(t, opened(t, d, "log"), 1, []byte("a"), []byte("b"), mixed(5000, 1), []byte("d"))
}

// TestSyncFuse has the disk go off at a Sync: what was loose is lost.
func TestSyncFuse(t *testing.T) {
	d := fresh(t, 1<<20)
	j := opened(t, d, "log")
	appended(t, j, 1, []byte("a"))
	fine(t, j.Sync())
	appended(t, j, 2, []byte("b"))
	fine(t, d.Fuse(0))
	if e := j.Sync(); e != api.ErrOff || d.On() {
		t.Errorf("Sync: error %d", e)
	}
	still(t, j, 1, []byte("a"), []byte("b"))
	fine(t, d.Crash(nil))
	has(t, opened(t, d, "log"), 1, []byte("a"))
	ended(t, gone(t, d), j, 1, []byte("a"), []byte("b"))
}

func TestRead(t *testing.T) {
	d := fresh(t, 1<<20)
	j := opened(t, d, "log")
	has(t, j, 1)
	var l [][]byte
	for i := range 100 {
		l = append(l, mixed(i*31, i))
		appended(t, j, uint64(i)+1, l[i])
		if i%9 == 0 {
			has(t, j, 1, l...)
		}
	}
	if len(d.Names()) < 10 {
		t.Fatalf("files %q", d.Names())
	}
	steps := d.Steps()
	has(t, j, 1, l...)
	has(t, opened(t, d, "log"), 1, l...)
	fine(t, j.Drop(50))
	first := j.First()
	if first < 40 || first > 50 {
		t.Fatalf("first: %d", first)
	}
	has(t, j, first, l[first-1:]...)
	fine(t, j.Restart(1000))
	has(t, j, 1000)
	if d.Steps() == steps {
		t.Errorf("nothing was removed")
	}
}

// spoiled changes all bytes of b, its spare room too.
func spoiled(b []byte) {
	for i := range b[:cap(b)] {
		b[:cap(b)][i] ^= 255
	}
}

func TestAnswersAreNewMemory(t *testing.T) {
	d := fresh(t, 1<<20)
	j := opened(t, d, "log")
	l := [][]byte{[]byte("a"), mixed(70, 1), nil, mixed(5000, 2), mixed(20, 3)}
	appended(t, j, 1, l...)
	for range 2 {
		for n := range uint64(5) {
			one, _ := j.Read(n + 1)
			two, _ := j.Read(n + 1)
			spoiled(one)
			if !bytes.Equal(two, l[n]) {
				t.Errorf("two answers of Read share memory")
			}
		}
		all, other := j.All(), j.All()
		spoiled(all[0])
		if !slices.EqualFunc(all[1:], l[1:], bytes.Equal) {
			t.Errorf("two records of one answer share memory")
		}
		for i := range all {
			spoiled(all[i])
		}
		for i := range all[:cap(all)] {
			all[:cap(all)][i] = nil
		}
		if !slices.EqualFunc(other, l, bytes.Equal) {
			t.Errorf("two answers of All share memory")
		}
		has(t, j, 1, l...)
		// What was answered doesn't change later either.
		kept, _ := j.Read(5)
		spoiled(kept)
		appended(t, j, 6, nil)
		if has(t, j, 1, append(l, nil)...); bytes.Equal(kept, l[4]) {
			t.Errorf("an answer changed later")
		}
		fine(t, j.Sync(), d.Crash(nil), j.Restart(1))
		appended(t, j, 1, l...)
		j = opened(t, d, "log")
	}
}

func TestWhatIsHandedInStaysAsItWas(t *testing.T) {
	d := fresh(t, 1<<20)
	j := opened(t, d, "log")
	memory := mixed(300, 9)
	b := memory[:130]
	appended(t, j, 1, b, b[3:9], b[:0])
	if !bytes.Equal(memory, mixed(300, 9)) {
		t.Errorf("what was handed in is changed")
	}
	spoiled(b)
	has(t, j, 1, mixed(130, 9), mixed(130, 9)[3:9], nil)
	has(t, opened(t, d, "log"), 1, mixed(130, 9), mixed(130, 9)[3:9], nil)
}

// TestMemoryGoesBack drops, and restarts, many times more than is there at once.
func TestMemoryGoesBack(t *testing.T) {
	const size, times = 60000, 1000
	d := fresh(t, 10*size)
	j := opened(t, d, "log")
	b := make([]byte, size)
	before := heap()
	for i := range times {
		appended(t, j, j.Next(), b)
		if i%5 == 4 {
			fine(t, j.Restart(j.Next()))
		}
		fine(t, j.Drop(j.Next()))
	}
	if grown := heap() - before; grown > size*times/4 {
		t.Errorf("%d bytes of memory more", grown)
	}
	runtime.KeepAlive(j)
}

// TestMemoryGoesBackAtOnce drops, and restarts, many segments in one call.
func TestMemoryGoesBackAtOnce(t *testing.T) {
	const size, times = 60000, 300
	for _, less := range []func(j *journal.Journal) api.Errno{
		func(j *journal.Journal) api.Errno { return j.Drop(j.Next()) },
		func(j *journal.Journal) api.Errno { return j.Restart(j.Next()) },
	} {
		d := fresh(t, 2*times*size)
		j := opened(t, d, "log")
		before := heap()
		for range times {
			appended(t, j, j.Next(), make([]byte, size))
		}
		if grown := heap() - before; grown < size*times {
			t.Fatalf("%d bytes of memory more only", grown)
		}
		fine(t, less(j))
		if grown := heap() - before; grown > size*times/4 {
			t.Errorf("%d bytes of memory more", grown)
		}
		runtime.KeepAlive(j)
	}
}

// heap answers how much memory is held.
func heap() int {
	var m runtime.MemStats
	runtime.GC()
	runtime.ReadMemStats(&m)
	return int(m.HeapAlloc)
}
