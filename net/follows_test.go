package net_test

import (
	"bytes"
	"math"
	"slices"
	"testing"

	"berthmaster/api"
	"berthmaster/net"
)

// dice rolls numbers that look like chance, the same from the same seed.
type dice uint64

func (d *dice) below(n int) int {
	*d = *d*6364136223846793005 + 1442695040888963407
	return int(uint64(*d)>>33) % n
}

// rolled answers a call of whatever kind, some wrong, of a net that gave so many numbers.
func rolled(d *dice, sent uint64) call {
	nodes := []int{0, 1, 2, 3, 62, 63, 0, 1, 2, 3, 0, 1, 2, 3, -1, 64}
	sizes := []int{0, 1, 2, 30, 200, 16383, 16384, 16385}
	kinds := []string{"send", "send", "send", "send", "deliver", "lose", "double", "double", "send", "deliver", "double", "clear"}
	c := call{what: kinds[d.below(len(kinds))], from: nodes[d.below(len(nodes))], to: nodes[d.below(len(nodes))], n: sizes[d.below(len(sizes))]}
	numbers := []uint64{0, sent, sent + 1, math.MaxUint64, 1, uint64(d.below(int(sent) + 1)), uint64(d.below(int(sent) + 1)), uint64(d.below(int(sent) + 1)), sent - uint64(d.below(10))}
	c.number = numbers[d.below(len(numbers))]
	if c.what == "clear" && d.below(3) > 0 {
		c.to = 40 + d.below(30)
	}
	return c
}

// tally counts how often each error was answered to each kind of call.
type tally map[string]*[api.ErrFull + 1]int

func (y tally) note(what string, e api.Errno) {
	if y[what] == nil {
		y[what] = &[api.ErrFull + 1]int{}
	}
	y[what][e]++
}

func (y tally) least(t *testing.T, n int, what string, errors ...api.Errno) {
	t.Helper()
	for _, e := range errors {
		if y[what] == nil || y[what][e] < n {
			t.Errorf("%s was answered error %d too seldom: %v", what, e, y[what])
		}
	}
}

// TestAsTheModel makes the same calls of two nets and of the model: they answer alike, and then tell alike.
func TestAsTheModel(t *testing.T) {
	y := tally{}
	for seed := range 50 {
		d := dice(seed)
		real, twin, plain := fresh(t), fresh(t), &model{}
		for i := range 120 {
			c := rolled(&d, plain.Sent())
			one, two, want := made(real, c), made(twin, c), made(plain, c)
			if one != want || two != want {
				t.Fatalf("seed %d, call %d, %v: %v and %v, not %v", seed, i, c, one, two, want)
			}
			y.note(c.what, want.e)
			if a, b := told(real), told(plain); a != b || told(twin) != b {
				t.Fatalf("seed %d, behind call %d, %v:\n%snot\n%s", seed, i, c, a, b)
			}
		}
	}
	y.least(t, 40, "send", api.OK, api.ErrArg, api.ErrLong)
	y.least(t, 40, "deliver", api.OK, api.ErrNone)
	y.least(t, 40, "lose", api.OK, api.ErrNone)
	y.least(t, 40, "double", api.OK, api.ErrNone)
	y.least(t, 40, "clear", api.OK)
}

// TestAsTheModelWhenFull does so of nets that have near as many letters in flight as may be.
func TestAsTheModelWhenFull(t *testing.T) {
	y := tally{}
	for seed := range 4 {
		d := dice(seed + 1000)
		real, plain := fresh(t), &model{}
		for i := range 4090 {
			c := call{what: "send", from: i % 64, to: 10 + i%20, n: i % 3}
			if made(real, c) != made(plain, c) {
				t.Fatalf("%v is not answered alike", c)
			}
		}
		for i := range 400 {
			c := rolled(&d, plain.Sent())
			if c.what == "clear" {
				c.what = "send"
			}
			c.n %= 16384
			if one, want := made(real, c), made(plain, c); one != want {
				t.Fatalf("seed %d, call %d, %v: %v, not %v", seed, i, c, one, want)
			} else {
				y.note(c.what, want.e)
			}
		}
		if a, b := told(real), told(plain); a != b {
			t.Fatalf("seed %d:\n%snot\n%s", seed, a, b)
		}
	}
	y.least(t, 30, "send", api.OK, api.ErrArg, api.ErrFull)
	y.least(t, 30, "double", api.OK, api.ErrNone, api.ErrFull)
}

// witness knows of a net what was handed in and answered, and no more.
type witness struct {
	n          *net.Net
	last       uint64
	posted     map[uint64]api.Letter // what was sent, by number
	over       map[uint64]bool       // the numbers that were delivered
	alive      []uint64              // those neither lost nor delivered, rising
	deliveries int
	doubles    int // of the deliveries
}

// sees makes a call, and fails the test where what it answers doesn't follow.
func (w *witness) sees(t *testing.T, c call) {
	t.Helper()
	there := slices.Contains(w.alive, c.number)
	switch c.what {
	case "send":
		body := mixed(c.n, int(w.last))
		number, e := w.n.Send(c.from, c.to, body)
		if w.given(t, number, e) {
			w.posted[number] = api.Letter{From: c.from, To: c.to, Body: body}
		}
	case "double":
		number, e := w.n.Double(c.number)
		if w.given(t, number, e) != there {
			t.Fatalf("Double(%d): error %d", c.number, e)
		}
	case "deliver":
		l, e := w.n.Deliver(c.number)
		if (e == api.OK) != there {
			t.Fatalf("Deliver(%d): error %d", c.number, e)
		}
		if there {
			w.receives(t, c.number, l)
			w.leaves(c.number)
		}
	case "lose":
		if e := w.n.Lose(c.number); (e == api.OK) != there {
			t.Fatalf("Lose(%d): error %d", c.number, e)
		}
		w.leaves(c.number)
	case "clear":
		to := w.n.To(c.to)
		w.n.Clear(c.to)
		w.leaves(to...)
	}
}

// given takes note of a number that was given, if one was, and answers whether.
func (w *witness) given(t *testing.T, number uint64, e api.Errno) bool {
	t.Helper()
	if e != api.OK {
		return false
	}
	w.last++
	if number != w.last {
		t.Fatalf("%d is given behind %d", number, w.last-1)
	}
	w.alive = append(w.alive, number)
	return true
}

// receives fails the test unless what is delivered was sent ahead, and wasn't delivered yet.
func (w *witness) receives(t *testing.T, number uint64, l api.Letter) {
	t.Helper()
	was, there := w.posted[l.First]
	if !there || w.over[number] || l.Number != number || l.First > number || l.From != was.From || l.To != was.To || !bytes.Equal(l.Body, was.Body) {
		t.Fatalf("Deliver(%d): %s, of %s", number, spelt(l), spelt(was))
	}
	w.over[number] = true
	w.deliveries++
	if l.First < number {
		w.doubles++
	}
}

// leaves takes note that letters are in flight no more.
func (w *witness) leaves(numbers ...uint64) {
	w.alive = slices.DeleteFunc(w.alive, func(number uint64) bool { return slices.Contains(numbers, number) })
}

// TestWhatFollows holds P7.4 on scripts: what is delivered was sent, no number is delivered twice, what is neither lost nor delivered stays.
func TestWhatFollows(t *testing.T) {
	deliveries, doubles := 0, 0
	for seed := range 100 {
		d := dice(seed + 5000)
		w := &witness{n: fresh(t), posted: map[uint64]api.Letter{}, over: map[uint64]bool{}}
		for i := range 200 {
			c := rolled(&d, w.last)
			w.sees(t, c)
			is := func(l api.Letter, number uint64) bool { return l.Number == number }
			if l := w.n.Flight(); !slices.EqualFunc(l, w.alive, is) || w.n.Sent() != w.last {
				t.Fatalf("seed %d, behind call %d, %v: %d was sent, in flight are\n%snot %d", seed, i, c, w.n.Sent(), lines(l), w.alive)
			}
		}
		deliveries += w.deliveries
		doubles += w.doubles
	}
	if deliveries < 1000 || doubles < 300 {
		t.Errorf("%d deliveries, %d of doubles", deliveries, doubles)
	}
}
