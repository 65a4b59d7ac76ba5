package disk_test

import (
	"bytes"
	"slices"
	"testing"

	"berthmaster/api"
)

func TestRead(t *testing.T) {
	d := opened(t, 300)
	unread(t, d, "a", api.ErrNone)
	done(t, d, call{what: "make", name: "a"})
	has(t, d, "a", nil, 0)
	done(t, d, call{what: "append", name: "a", n: 3}, call{what: "sync", name: "a"})
	has(t, d, "a", mixed(3, 1), 3)
	done(t, d, call{what: "append", name: "a", n: 4})
	has(t, d, "a", append(mixed(3, 1), mixed(4, 1)...), 3)
	unread(t, d, "b", api.ErrNone)
	if d.Steps() != 4 {
		t.Errorf("reading did steps: %d", d.Steps())
	}
}

func TestNamesRise(t *testing.T) {
	d := opened(t, 300)
	l := []string{"b", "a", "B", "ab", "aa", "~", "!", "10", "9", "a0", "aaa", "A~", "0"}
	for _, name := range l {
		done(t, d, call{what: "make", name: name})
	}
	slices.Sort(l)
	for range 20 {
		if !slices.Equal(d.Names(), l) {
			t.Fatalf("names: %q", d.Names())
		}
	}
	done(t, d, call{what: "fuse", n: 0})
	d.Remove("a")
	if n := d.Names(); len(n) != 0 {
		t.Errorf("names of a disk that is off: %q", n)
	}
	done(t, d, call{what: "crash"})
	if !slices.Equal(d.Names(), l) {
		t.Errorf("names of a disk that is on again: %q", d.Names())
	}
}

func TestLeft(t *testing.T) {
	d := opened(t, 300)
	done(t, d, call{what: "make", name: "a"}, call{what: "append", name: "a", n: 100}, call{what: "make", name: "b"}, call{what: "append", name: "b", n: 70})
	if d.Left() != 130 {
		t.Errorf("%d left", d.Left())
	}
	done(t, d, call{what: "sync", name: "a"}, call{what: "turn", name: "a", n: 4})
	if d.Left() != 130 {
		t.Errorf("%d left behind a sync", d.Left())
	}
	done(t, d, call{what: "append", name: "a", n: 5}, call{what: "crash", keep: []int{2, 30}})
	if d.Left() != 168 {
		t.Errorf("%d left behind a crash", d.Left())
	}
	done(t, d, call{what: "fuse", n: 0})
	d.Sync("a")
	if d.Left() != 0 {
		t.Errorf("%d left of a disk that is off", d.Left())
	}
}

// spoiled changes all bytes of b, its spare room too.
func spoiled(b []byte) {
	for i := range b[:cap(b)] {
		b[:cap(b)][i] ^= 255
	}
}

func TestAnswersAreNewMemory(t *testing.T) {
	d := opened(t, 1000)
	done(t, d, call{what: "make", name: "a"}, call{what: "append", name: "a", n: 200}, call{what: "sync", name: "a"}, call{what: "append", name: "a", n: 30}, call{what: "make", name: "b"})
	before := told(d)
	one, _ := d.Read("a")
	two, _ := d.Read("a")
	spoiled(one)
	if !bytes.Equal(two, append(mixed(200, 1), mixed(30, 1)...)) {
		t.Errorf("two answers of Read share memory")
	}
	none, _ := d.Read("b")
	spoiled(none)
	l, m := d.Names(), d.Names()
	for i := range l[:cap(l)] {
		l[:cap(l)][i] = "other"
	}
	if !slices.Equal(m, []string{"a", "b"}) {
		t.Errorf("two answers of Names share memory: %v", m)
	}
	if after := told(d); after != before {
		t.Errorf("what was answered is the disk's own:\n%s%s", before, after)
	}
	// What is put behind later doesn't change what was answered, nor does a turned byte.
	three, _ := d.Read("a")
	done(t, d, call{what: "append", name: "a", n: 60}, call{what: "turn", name: "a", n: 3}, call{what: "remove", name: "a"})
	if !bytes.Equal(three, two) {
		t.Errorf("an answer changed later")
	}
}

func TestWhatIsHandedInStaysAsItWas(t *testing.T) {
	d := opened(t, 1000)
	done(t, d, call{what: "make", name: "a"}, call{what: "make", name: "b"})
	memory := mixed(200, 9)
	b := memory[:130]
	if d.Append("a", b) != api.OK || d.Append("b", b[:3]) != api.OK || d.Append("a", b[3:9]) != api.OK || d.Turn("a", 0, 7) != api.OK {
		t.Fatal("refused")
	}
	if !bytes.Equal(memory, mixed(200, 9)) {
		t.Errorf("what was handed in is changed")
	}
	want, _ := d.Read("a")
	spoiled(b)
	has(t, d, "a", want, 0)
	has(t, d, "b", mixed(3, 9), 0)
	keep := []int{4, 1, 9, 9}
	done(t, d, call{what: "crash", keep: keep[:2]})
	if !slices.Equal(keep, []int{4, 1, 9, 9}) {
		t.Errorf("keep is changed: %v", keep)
	}
	has(t, d, "a", want[:4], 4)
	has(t, d, "b", mixed(1, 9), 1)
}
