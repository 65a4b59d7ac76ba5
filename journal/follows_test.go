package journal_test

import (
	"bytes"
	"fmt"
	"math"
	"math/bits"
	"slices"
	"strings"
	"testing"

	"berthmaster/api"
	"berthmaster/disk"
	"berthmaster/journal"
)

// call is a call of a journal's, or something that happens to its disk.
type call struct {
	what string
	n    uint64 // which number, how many bytes, which byte
	name string
	keep []int
}

// rolled answers a call of whatever kind, for a journal that goes up to next; some are wrong.
func rolled(d *dice, next uint64) call {
	kinds := []string{"append", "append", "append", "append", "append", "append", "sync", "sync", "drop", "restart", "open", "crash", "fuse", "turn", "lay", "remove"}
	c := call{what: kinds[d.below(len(kinds))], n: uint64(d.below(int(min(next, 1<<30)) + 2))}
	names := []string{"log-cut", "log-000000000001", segment("log", next), segment("log", next+1), "log-00000000001", "other"}
	c.name = names[d.below(len(names))]
	switch c.what {
	case "append":
		sizes := []int{0, d.below(10), d.below(100), d.below(1000), 4084, 4083, d.below(6000), d.below(6000), 65536, 65537}
		c.n = uint64(sizes[d.below(len(sizes))])
	case "restart":
		// Seldom, so that journals grow.
		if lot := []uint64{0, 1, 7, next, 1 << 39, 1<<39 + 1}; d.below(4) == 0 {
			c.n = lot[d.below(len(lot))]
		} else {
			c.what, c.n = "append", uint64(d.below(500))
		}
	case "crash":
		lot := []int{0, 1, 30, 64, 200, math.MaxInt}
		for range d.below(12) {
			c.keep = append(c.keep, lot[d.below(len(lot))])
		}
	case "fuse":
		c.n = uint64(d.below(120))
	}
	return c
}

// done does a call to the journal, or to the disk, and answers what it answered, as a text.
func done(j log, d *disk.Disk, c call) string {
	switch c.what {
	case "append":
		n, e := j.Append(mixed(int(c.n), int(c.n)))
		return fmt.Sprint(n, e)
	case "sync":
		return fmt.Sprint(j.Sync())
	case "drop":
		return fmt.Sprint(j.Drop(c.n))
	case "restart":
		return fmt.Sprint(j.Restart(c.n))
	case "crash":
		return fmt.Sprint(d.Crash(c.keep))
	case "fuse":
		return fmt.Sprint(d.Fuse(int(c.n)))
	case "remove":
		return fmt.Sprint(d.Remove(c.name))
	case "lay":
		return fmt.Sprint(d.Make(c.name), d.Append(c.name, framed(1, mixed(int(c.n%100), 1))))
	case "turn":
		names := d.Names()
		if len(names) == 0 {
			return ""
		}
		return fmt.Sprint(d.Turn(names[int(c.n)%len(names)], int(c.n*37%5000), 1<<(c.n%8)))
	}
	return ""
}

// TestAsTheModel does the same to a journal and to the model, each on a disk of its own: they answer alike, and then tell alike.
func TestAsTheModel(t *testing.T) {
	t.Parallel()
	answers := map[string]int{}
	for seed := range 300 {
		r := dice(seed)
		room := []int{150000, 80000, 20000, 3000, 100}[seed%5]
		one, two := fresh(t, room), fresh(t, room)
		var j, m log = opened(t, one, "log"), nil
		m, _ = modelled(two, "log")
		for i := range 150 {
			c := rolled(&r, m.Next())
			if !two.On() && r.below(3) == 0 {
				c = call{what: "crash", keep: []int{r.below(100), r.below(100), r.below(100)}}
			}
			got, want := done(j, one, c), done(m, two, c)
			if got != want {
				t.Fatalf("seed %d, call %d, %v: %s, not %s", seed, i, c, got, want)
			}
			answers[c.what+want[strings.LastIndex(want, " ")+1:]]++
			// Behind a crash a journal is opened anew.
			if c.what == "open" || c.what == "crash" || c.what == "turn" {
				k, e := journal.Open(one, "log")
				l, f := (*model)(nil), api.ErrOff
				if two.On() {
					l, f = modelled(two, "log")
				}
				if e != f || (k == nil) != (e != api.OK) {
					t.Fatalf("seed %d, behind call %d, %v: Open: error %d, not %d", seed, i, c, e, f)
				}
				answers[fmt.Sprint("Open", f)]++
				if e == api.OK {
					j, m = k, l
				}
			}
			if seen(one) != seen(two) {
				t.Fatalf("seed %d, behind call %d, %v:\n%snot\n%s", seed, i, c, seen(one), seen(two))
			}
			if told(j) != told(m) {
				t.Fatalf("seed %d, behind call %d, %v:\n%snot\n%s", seed, i, c, told(j), told(m))
			}
		}
	}
	// Each answer was there often enough to say something.
	for _, a := range []string{"append0", "append3", "append6", "append7", "append8", "append10", "sync0", "sync6", "sync10", "drop0", "drop2", "drop6", "drop10", "restart0", "restart2", "restart6", "restart10", "Open0", "Open8", "Open10"} {
		if answers[a] < 10 {
			t.Errorf("%s: %d times only", a, answers[a])
		}
	}
}

// life is what is known of a journal from without: what was appended by number, and what of that must be there behind a crash.
type life struct {
	written map[uint64][]byte
	first   uint64 // the first that is there, if one is
	sure    uint64 // behind the last that must be there; 0: none must
}

// born answers a life of a journal without records.
func born(first uint64) *life {
	return &life{written: map[uint64][]byte{}, first: first}
}

// lived does calls to the journal up to an error of the disk's, and notes what must be there then.
func (l *life) lived(t *testing.T, j *journal.Journal, calls []call) {
	t.Helper()
	for _, c := range calls {
		e := api.OK
		switch c.what {
		case "append":
			b := mixed(int(c.n), int(c.n))
			// Noted ahead: it may be there whole, though that was not told.
			l.written[j.Next()] = b
			_, e = j.Append(b)
		case "sync":
			if e = j.Sync(); e == api.OK {
				l.sure = j.Next()
			}
		case "drop":
			e = j.Drop(c.n)
			// Some segments may be gone, though an error was told.
			l.first = j.First()
		case "restart":
			l.sure = 0
			if e = j.Restart(c.n); e == api.OK {
				*l = *born(c.n)
			}
		}
		if e == api.ErrOff {
			return
		}
		if e != api.OK {
			t.Fatalf("%v: error %d", c, e)
		}
	}
}

// held fails the test unless the journal, opened behind a crash, has what must be there, and nothing else but what may be.
func (l *life) held(t *testing.T, when string, j *journal.Journal) {
	t.Helper()
	first, next := j.First(), j.Next()
	if next < l.sure {
		t.Fatalf("%s: from %d to %d: those below %d were synced", when, first, next, l.sure)
	}
	all := j.All()
	if uint64(len(all)) != next-first {
		t.Fatalf("%s: from %d to %d: %d records", when, first, next, len(all))
	}
	if len(all) > 0 && first != l.first {
		t.Fatalf("%s: from %d on, not from %d on", when, first, l.first)
	}
	for i, b := range all {
		want, there := l.written[first+uint64(i)]
		if !there || !bytes.Equal(b, want) {
			t.Fatalf("%s: %d is another record", when, first+uint64(i))
		}
	}
}

// crashing answers calls with all that a crash may fall upon.
func crashing() []call {
	return []call{{what: "append", n: 3}, {what: "append", n: 70}, {what: "sync"}, {what: "append", n: 0}, {what: "append", n: 1}, {what: "append", n: 4100}, {what: "sync"}, {what: "append", n: 130},
		{what: "append", n: 4000}, {what: "append", n: 20}, {what: "append", n: 4097}, {what: "append", n: 6}, {what: "sync"}, {what: "drop", n: 9}, {what: "append", n: 5}, {what: "drop", n: 4},
		{what: "append", n: 4200}, {what: "append", n: 9}, {what: "sync"}, {what: "restart", n: 40}, {what: "append", n: 8}, {what: "append", n: 12}, {what: "sync"}, {what: "append", n: 64}}
}

// fallen does the calls with that fuse, falls, and keeps so many of each file's loose bytes; then all that was synced must be there. It answers how much room is left then, and whether the fuse was felt.
func fallen(t *testing.T, fuse, kept int) (left int, felt bool) {
	t.Helper()
	d := fresh(t, 1<<20)
	j := opened(t, d, "log")
	l := born(1)
	fine(t, d.Fuse(fuse))
	l.lived(t, j, crashing())
	felt = !d.On()
	fine(t, d.Crash(slices.Repeat([]int{kept}, 20)))
	left = d.Left()
	l.held(t, fmt.Sprintf("a fuse of %d, %d bytes kept", fuse, kept), opened(t, d, "log"))
	return left, felt
}

// TestCrash falls at each step, keeping all, none and much between of what is loose.
func TestCrash(t *testing.T) {
	t.Parallel()
	for fuse := 0; ; fuse++ {
		least, felt := fallen(t, fuse, math.MaxInt)
		for kept := 0; ; kept++ {
			if left, _ := fallen(t, fuse, kept); left == least {
				break
			}
			// Of many bytes not each is tried.
			if kept > 40 {
				kept += 36
			}
		}
		if !felt {
			break
		}
	}
}

// TestLives lets a journal fall again and again, while it is opened too, and goes on with what is there.
func TestLives(t *testing.T) {
	t.Parallel()
	for seed := range 300 {
		r := dice(seed)
		d := fresh(t, 1<<22)
		l := born(1)
		for range 12 {
			fine(t, d.Fuse(r.below(200)))
			j, e := journal.Open(d, "log")
			if e == api.OK {
				l.held(t, fmt.Sprintf("seed %d", seed), j)
				// Without a segment it begins anew.
				l.first = j.First()
				l.lived(t, j, lifelike(&r, j.Next()))
			}
			var keep []int
			for range r.below(9) {
				keep = append(keep, []int{0, 1, 13, 64, 100, 2000, math.MaxInt}[r.below(7)])
			}
			fine(t, d.Crash(keep))
		}
		l.held(t, fmt.Sprintf("seed %d", seed), opened(t, d, "log"))
	}
}

// lifelike answers calls that a journal that goes up to next takes.
func lifelike(r *dice, next uint64) []call {
	var l []call
	for range 30 {
		switch r.below(9) {
		case 0, 1:
			l = append(l, call{what: "sync"})
		case 2:
			l = append(l, call{what: "drop", n: uint64(r.below(int(next)) + 1)})
		case 3:
			if r.below(12) == 0 {
				next = uint64(r.below(300) + 1)
				l = append(l, call{what: "restart", n: next})
			}
		default:
			l = append(l, call{what: "append", n: uint64([]int{r.below(20), r.below(300), r.below(3000), 4084}[r.below(4)])})
			next++
		}
	}
	return l
}

// altered turns the bits of the pattern in the disk's file, from the bit start on; those behind its end are left out.
func altered(t *testing.T, d *disk.Disk, name string, start int, pattern uint32) {
	t.Helper()
	b, _ := d.Read(name)
	for ; pattern != 0; pattern &= pattern - 1 {
		if bit := start + bits.TrailingZeros32(pattern); bit < 8*len(b) {
			fine(t, d.Turn(name, bit/8, 1<<(bit%8)))
		}
	}
}

// TestAltered turns bits within 32 side by side of one segment: its records are a first part of what they were, and so are the journal's.
func TestAltered(t *testing.T) {
	t.Parallel()
	l := [][]byte{[]byte("a"), nil, mixed(30, 1), mixed(4060, 2), mixed(20, 3), mixed(3, 4), mixed(4096, 5), nil, []byte("last")}
	begins := []int{0, 4, 7}
	patterns := []uint32{1, 3, 0x101, 0x80000001, 0xFFFFFFFF, 0xEDB88321, 0x04C11DB7, 0x00FF00FF, 0x9E3779B9}
	for i, at := range begins {
		name := segment("log", uint64(at)+1)
		end := len(l)
		if i+1 < len(begins) {
			end = begins[i+1]
		}
		size := 0
		for _, b := range l[at:end] {
			size += 12 + len(b)
		}
		for start := 0; start < 8*size; start++ {
			// Of long records not each bit is tried.
			if start > 800 && start < 8*size-800 && start%67 != 0 {
				continue
			}
			pattern := patterns[start%len(patterns)]
			d := fresh(t, 1<<20)
			j := opened(t, d, "log")
			appended(t, j, 1, l...)
			fine(t, j.Sync())
			altered(t, d, name, start, pattern)
			j = opened(t, d, "log")
			n := len(j.All())
			if n < at || n >= end {
				t.Fatalf("%#x turned from bit %d of %s on: %d records", pattern, start, name, n)
			}
			has(t, j, 1, l[:n]...)
			has(t, opened(t, d, "log"), 1, l[:n]...)
			appended(t, j, uint64(n)+1, []byte("on"))
		}
	}
}

// TestAlteredAlike turns, of an open journal's segment, what it has read already: it tells what was appended.
func TestAlteredAlike(t *testing.T) {
	d := fresh(t, 1<<20)
	j := opened(t, d, "log")
	appended(t, j, 1, []byte("a"), []byte("b"))
	fine(t, d.Turn("log-000000000001", 20, 255))
	has(t, j, 1, []byte("a"), []byte("b"))
	has(t, opened(t, d, "log"), 1, []byte("a"))
}
