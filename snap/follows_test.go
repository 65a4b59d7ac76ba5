package snap_test

import (
	"bytes"
	"encoding/binary"
	"fmt"
	"hash/crc32"
	"math"
	"slices"
	"strings"
	"testing"

	"berthmaster/api"
	"berthmaster/disk"
	"berthmaster/snap"
)

// call is a call of a checkpoint's, or something that happens to its disk.
type call struct {
	what string
	n    int // how many bytes, which byte
	name string
	keep []int
}

// rolled answers a call of whatever kind, for a checkpoint that goes up to next; some are wrong.
func rolled(d *dice, next uint64) call {
	kinds := []string{"log", "log", "log", "log", "log", "log", "sync", "save", "save", "save", "open", "crash", "fuse", "turn", "lay", "remove"}
	c := call{what: kinds[d.below(len(kinds))], n: d.below(1000)}
	names := []string{"m-snapnew", "m-cut", "m-000000000001", named("m", next), named("m", next-1), named("m", next+1), named("m", 0), "m-snap-00000000001", "other"}
	c.name = names[d.below(len(names))]
	switch c.what {
	case "log":
		c.n = []int{0, d.below(10), d.below(100), d.below(1000), 4084, 4083, d.below(6000), d.below(6000), 65530 + d.below(10), 65537}[min(d.below(10), d.below(12))]
	case "save":
		c.n = []int{0, 1, d.below(100), d.below(100), d.below(1000), d.below(9000), 200000}[d.below(7)]
		// Seldom, as it takes long.
		if d.below(40) == 0 {
			c.n = 1048560 + d.below(2)
		}
	case "crash":
		for range d.below(12) {
			c.keep = append(c.keep, []int{0, 1, 30, 64, 200, math.MaxInt}[d.below(6)])
		}
	case "fuse":
		c.n = d.below(120)
	}
	return c
}

// done does a call to the checkpoint, or to the disk, and answers what it answered, as a text.
func done(s store, d *disk.Disk, c call) string {
	switch c.what {
	case "log":
		n, e := s.Log(mixed(c.n, c.n))
		return fmt.Sprint(n, e)
	case "sync":
		return fmt.Sprint(s.Sync())
	case "save":
		return fmt.Sprint(s.Save(mixed(c.n, c.n)))
	case "crash":
		return fmt.Sprint(d.Crash(c.keep))
	case "fuse":
		return fmt.Sprint(d.Fuse(c.n))
	case "remove":
		return fmt.Sprint(d.Remove(c.name))
	case "lay":
		return fmt.Sprint(d.Make(c.name), d.Append(c.name, shot(uint64(c.n%9), mixed(c.n%100, 1))))
	case "turn":
		names := d.Names()
		if len(names) == 0 {
			return ""
		}
		return fmt.Sprint(d.Turn(names[c.n%len(names)], c.n*37%5000, 1<<(c.n%8)))
	}
	return ""
}

// TestAsTheModel does the same to a checkpoint and to the model, each on a disk of its own: they answer alike, and then tell alike.
func TestAsTheModel(t *testing.T) {
	t.Parallel()
	answers := map[string]int{}
	for seed := range 300 {
		r := dice(seed)
		room := []int{150000, 80000, 20000, 3000, 200}[seed%5]
		d, other := fresh(t, room), fresh(t, room)
		var s, m store = opened(t, d, "m"), first(t, other)
		for step := range 150 {
			c := rolled(&r, s.Next())
			if !other.On() && r.below(3) == 0 {
				c = call{what: "crash", keep: []int{r.below(100), r.below(100), r.below(100), r.below(100)}}
			}
			var got, want string
			if c.what == "open" {
				got, want = reopened(t, d, other, &s, &m)
			} else {
				got, want = done(s, d, c), done(m, other, c)
			}
			answers[c.what+" "+want[strings.LastIndex(want, " ")+1:]]++
			if got != want || told(s) != told(m) || seen(d) != seen(other) {
				t.Fatalf("seed %d, step %d, %v: %q\n%s%snot %q\n%s%s", seed, step, c, got, told(s), seen(d), want, told(m), seen(other))
			}
		}
	}
	// Each answer was there often enough to say something.
	for _, a := range []string{"log 0", "log 3", "log 6", "log 7", "log 8", "log 10", "sync 0", "sync 6", "sync 10", "save 0", "save 3", "save 6", "save 8", "save 10", "open 0", "open 8", "open 10"} {
		if answers[a] < 10 {
			t.Errorf("%s: %d times only", a, answers[a])
		}
	}
}

// first answers the model of a checkpoint, on a disk that has none yet.
func first(t *testing.T, d *disk.Disk) *model {
	t.Helper()
	m, e := modelled(d, "m")
	if e != api.OK {
		t.Fatal(e)
	}
	return m
}

// reopened opens the checkpoint and the model anew; where that is an error, they stay as they are.
func reopened(t *testing.T, d, other *disk.Disk, s, m *store) (got, want string) {
	t.Helper()
	opening, e := snap.Open(d, "m")
	if e == api.OK {
		*s = opening
	}
	if !other.On() {
		return fmt.Sprint(e), "10"
	}
	modelling, wanted := modelled(other, "m")
	if wanted == api.OK {
		*m = modelling
	}
	return fmt.Sprint(e), fmt.Sprint(wanted)
}

// life is what a checkpoint's user knows: all that was logged, and what must be there behind a crash.
type life struct {
	records []uint64 // the essence of each, from number 1 on; the last one perhaps not told
	sure    int      // how many of them must be there
	saved   []byte   // the snapshot whose Save answered OK last; nil: none
	saving  []byte   // the one that was being saved when the disk went off; nil: none
}

// essence answers a number that tells a record from others, so that snapshots are short.
func essence(b []byte) uint64 {
	return uint64(len(b))<<32 | uint64(crc32.ChecksumIEEE(b))
}

// state answers a snapshot's bytes: the records' essences.
func state(l []uint64) []byte {
	out := []byte{}
	for _, x := range l {
		out = binary.BigEndian.AppendUint64(out, x)
	}
	return out
}

// whole answers the essences of all records that a checkpoint has: those in the snapshot, and those behind it.
func whole(b []byte, since [][]byte) []uint64 {
	var l []uint64
	for ; len(b) > 0; b = b[8:] {
		l = append(l, binary.BigEndian.Uint64(b))
	}
	for _, record := range since {
		l = append(l, essence(record))
	}
	return l
}

// lived does calls to the checkpoint up to the disk's end, and notes what must be there then.
func (l *life) lived(t *testing.T, s *snap.Store, calls []call) {
	t.Helper()
	for i, c := range calls {
		e := api.OK
		switch c.what {
		case "log":
			b := mixed(c.n, len(l.records)+i)
			_, e = s.Log(b)
			// It may be there whole, though that was not told.
			if e == api.OK || e == api.ErrOff {
				l.records = append(l.records, essence(b))
			}
		case "sync":
			e = s.Sync()
		case "save":
			l.saving = state(l.records)
			if e = s.Save(l.saving); e == api.OK {
				l.saved = l.saving
			}
		}
		if e == api.OK && c.what != "log" {
			l.sure = len(l.records)
		}
		if e == api.ErrOff {
			return
		}
		if l.saving = nil; e != api.OK && e != api.ErrFull {
			t.Fatalf("%v: error %d", c, e)
		}
	}
}

// held fails the test unless the checkpoint, opened behind a crash, has what must be there, and nothing else but what may be.
func (l *life) held(t *testing.T, when string, s *snap.Store) {
	t.Helper()
	b, upto, there := s.Snapshot()
	old := there == (l.saved != nil) && bytes.Equal(b, l.saved)
	if !old && !(there && l.saving != nil && bytes.Equal(b, l.saving)) {
		t.Fatalf("%s: another snapshot, of %d bytes", when, len(b))
	}
	all := whole(b, s.Since())
	if len(b) != 8*int(upto-1) || s.Next() != uint64(len(all))+1 {
		t.Fatalf("%s: up to %d, next %d: %d records", when, upto, s.Next(), len(all))
	}
	if len(all) < l.sure || len(all) > len(l.records) || !slices.Equal(all, l.records[:len(all)]) {
		t.Fatalf("%s: %d records of %d, %d of them sure", when, len(all), len(l.records), l.sure)
	}
}

// crashing answers calls with all that a crash may fall upon.
func crashing() []call {
	return []call{{what: "log", n: 3}, {what: "log", n: 70}, {what: "sync"}, {what: "log", n: 0}, {what: "save"}, {what: "log", n: 1}, {what: "sync"}, {what: "log", n: 130}, {what: "log", n: 20},
		{what: "save"}, {what: "save"}, {what: "log", n: 3800}, {what: "log", n: 4090}, {what: "log", n: 9}, {what: "log", n: 6}, {what: "save"}, {what: "log", n: 5}, {what: "log", n: 12}, {what: "sync"}, {what: "log", n: 64}}
}

// fallen does the calls with that fuse, and falls. It answers the disk, what must be there, and whether the fuse was felt.
func fallen(t *testing.T, fuse int, keep ...int) (*disk.Disk, *life, bool) {
	t.Helper()
	d := fresh(t, 1<<20)
	s := opened(t, d, "m")
	l := &life{}
	fine(t, d.Fuse(fuse))
	l.lived(t, s, crashing())
	felt := !d.On()
	fine(t, d.Crash(keep))
	return d, l, felt
}

// keeps answers how much of what is loose is kept: none, all, and much between, of all files or of one.
func keeps() [][]int {
	var l [][]int
	for _, n := range []int{0, 1, 7, 8, 11, 12, 13, 14, 20, 25, 26, 31, 32, 60, 63, 64, 65, 77, 89, 100, 128, 129, 142, 1000, 3900, 4000, 4102, math.MaxInt} {
		l = append(l, slices.Repeat([]int{n}, 9))
	}
	for i := range 5 {
		l = append(l, append(make([]int, i), 20), append(make([]int, i), math.MaxInt))
	}
	return l
}

// TestCrash falls at each step.
func TestCrash(t *testing.T) {
	t.Parallel()
	for fuse, felt := 0, true; felt; fuse++ {
		for _, keep := range keeps() {
			var d *disk.Disk
			var l *life
			d, l, felt = fallen(t, fuse, keep...)
			when := fmt.Sprintf("a fuse of %d, %d bytes kept", fuse, keep)
			l.held(t, when, opened(t, d, "m"))
			// Opened once more, it is the same, without what became loose too.
			fine(t, d.Crash(nil))
			l.held(t, when, opened(t, d, "m"))
		}
	}
}

// TestCrashOpening falls at each step of an Open behind such a crash: nothing more is lost.
func TestCrashOpening(t *testing.T) {
	t.Parallel()
	for fuse, felt := 0, true; felt; fuse++ {
		for _, kept := range []int{0, 20, 70, math.MaxInt} {
			for opening, off := 0, true; off; opening++ {
				keep := slices.Repeat([]int{kept}, 9)
				var d *disk.Disk
				var l *life
				d, l, felt = fallen(t, fuse, keep...)
				fine(t, d.Fuse(opening))
				s, e := snap.Open(d, "m")
				if off = !d.On(); (s == nil) != off || off != (e == api.ErrOff) {
					t.Fatalf("a fuse of %d, then of %d: error %d", fuse, opening, e)
				}
				fine(t, d.Crash(keep))
				l.held(t, fmt.Sprintf("a fuse of %d, then of %d, %d bytes kept", fuse, opening, kept), opened(t, d, "m"))
			}
		}
	}
}

// TestLives lets a checkpoint fall again and again, while it is opened too, and goes on with what is there; on some disks there is little room.
func TestLives(t *testing.T) {
	t.Parallel()
	answers := map[api.Errno]int{}
	for seed := range 400 {
		r := dice(seed)
		d := fresh(t, []int{1 << 22, 1 << 22, 9000}[seed%3])
		l := &life{}
		for i := range 12 {
			when := fmt.Sprintf("seed %d, life %d", seed, i)
			fine(t, d.Fuse(r.below(200)))
			s, e := snap.Open(d, "m")
			answers[e]++
			if e == api.OK {
				l.held(t, when, s)
				l.begin(s)
				l.lived(t, s, lifelike(&r))
			} else if e != api.ErrOff && e != api.ErrFull {
				t.Fatalf("%s: error %d", when, e)
			}
			var keep []int
			for range r.below(9) {
				keep = append(keep, []int{0, 1, 13, 64, 100, 2000, math.MaxInt}[r.below(7)])
			}
			fine(t, d.Crash(keep))
		}
	}
	if answers[api.OK] < 1000 || answers[api.ErrOff] < 50 {
		t.Errorf("opened: %v", answers)
	}
}

// begin takes what a checkpoint that was opened has; that lasts only as far as it did.
func (l *life) begin(s *snap.Store) {
	b, _, there := s.Snapshot()
	*l = life{records: whole(b, s.Since()), sure: l.sure}
	if there {
		l.saved = append([]byte{}, b...)
	}
}

// lifelike answers calls for one life.
func lifelike(r *dice) []call {
	var l []call
	for range 30 {
		switch r.below(9) {
		case 0:
			l = append(l, call{what: "sync"})
		case 1, 2:
			l = append(l, call{what: "save"})
		default:
			l = append(l, call{what: "log", n: []int{r.below(20), r.below(300), r.below(900), 4084}[min(r.below(4), r.below(5))]})
		}
	}
	return l
}
