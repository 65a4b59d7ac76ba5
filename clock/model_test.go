package clock_test

import (
	"fmt"
	"math/big"
	"slices"
	"strings"
	"testing"

	"berthmaster/api"
	"berthmaster/clock"
)

// keeping answers, in the chapter's words, whether a clock that goes on like this keeps to the drift: each part is asked.
func keeping(goes []int, drift int) bool {
	for from := range goes {
		sum := 0
		for i, gone := range goes[from:] {
			sum += gone
			if !fair(i+1, sum, drift) {
				return false
			}
		}
	}
	return true
}

// fair answers whether a clock may go on by sum in a part of g steps; it is reckoned in thousandths.
func fair(g, sum, drift int) bool {
	return sum*1000 >= g*1000-g*drift-2000 && sum*1000 <= g*1000+g*drift+2000
}

// enough answers, in the chapter's words and broken numbers, whether m ticks are not too few for a lease of n.
func enough(m, n, drift int) bool {
	of := func(ticks, each int) *big.Rat { return big.NewRat(int64(ticks)*1000, int64(each)) }
	return of(m-2, 1000+drift).Cmp(of(n+2, 1000-drift)) >= 0
}

// timer is what a watch can do, and what the model of one can do.
type timer interface {
	Tick(n int) ([]string, api.Errno)
	Set(name string, ticks int) api.Errno
	Drop(name string) api.Errno
	Left(name string) (int, bool)
	Now() int64
	Names() []string
}

// model is a watch told in the chapter's words: its reading, and names with their ends, in no order.
type model struct {
	now   int64
	names []string
	ends  []int64
}

func (m *model) away(i int) {
	m.names = slices.Delete(m.names, i, i+1)
	m.ends = slices.Delete(m.ends, i, i+1)
}

func (m *model) Tick(n int) ([]string, api.Errno) {
	if n < 0 || n > 1048576 {
		return nil, api.ErrArg
	}
	var l []string
	for range n {
		m.now++
		var those []string
		for i := len(m.names) - 1; i >= 0; i-- {
			if m.ends[i] == m.now {
				those = append(those, m.names[i])
				m.away(i)
			}
		}
		slices.Sort(those)
		l = append(l, those...)
	}
	return l, api.OK
}

func (m *model) Set(name string, ticks int) api.Errno {
	if ticks < 1 || ticks > 1073741824 || len(name) == 0 {
		return api.ErrArg
	}
	m.Drop(name)
	m.names = append(m.names, name)
	m.ends = append(m.ends, m.now+int64(ticks))
	return api.OK
}

func (m *model) Drop(name string) api.Errno {
	i := slices.Index(m.names, name)
	if i < 0 {
		return api.ErrNone
	}
	m.away(i)
	return api.OK
}

func (m *model) Left(name string) (int, bool) {
	i := slices.Index(m.names, name)
	if i < 0 {
		return 0, false
	}
	return int(m.ends[i] - m.now), true
}

func (m *model) Now() int64 {
	return m.now
}

func (m *model) Names() []string {
	l := slices.Clone(m.names)
	slices.Sort(l)
	return l
}

// call is one of a watch's calls that change it, with what is handed in.
type call struct {
	what string
	name string
	n    int
}

// answer is all that a call answers.
type answer struct {
	names string
	e     api.Errno
}

// made makes the call, and answers what it answered.
func made(w timer, c call) answer {
	switch c.what {
	case "tick":
		l, e := w.Tick(c.n)
		return answer{spelt(l), e}
	case "set":
		return answer{spelt(nil), w.Set(c.name, c.n)}
	case "drop":
		return answer{spelt(nil), w.Drop(c.name)}
	}
	return answer{e: -1}
}

// spelt answers names as a text.
func spelt(l []string) string {
	return fmt.Sprintf("%d: %q", len(l), l)
}

// told answers all that a watch tells of these names, and of those that it has, as a text.
func told(w timer, names ...string) string {
	var b strings.Builder
	fmt.Fprintln(&b, w.Now(), spelt(w.Names()))
	for _, name := range append(w.Names(), names...) {
		left, is := w.Left(name)
		fmt.Fprintf(&b, "%q %d %t\n", name, left, is)
	}
	return b.String()
}

// fresh answers a new watch.
func fresh(t *testing.T) *clock.Watch {
	t.Helper()
	w := clock.New()
	if w == nil {
		t.Fatal("New answers none")
	}
	return w
}

// set lets names end that many ticks from now.
func set(t *testing.T, w timer, ticks int, names ...string) {
	t.Helper()
	for _, name := range names {
		if e := w.Set(name, ticks); e != api.OK {
			t.Errorf("Set(%q, %d): error %d", name, ticks, e)
		}
	}
}

// dropped drops names.
func dropped(t *testing.T, w timer, names ...string) {
	t.Helper()
	for _, name := range names {
		if e := w.Drop(name); e != api.OK {
			t.Errorf("Drop(%q): error %d", name, e)
		}
	}
}

// ticked lets the watch go on by n: just these names must be told.
func ticked(t *testing.T, w timer, n int, want ...string) {
	t.Helper()
	now := w.Now()
	if l, e := w.Tick(n); !slices.Equal(l, want) || e != api.OK {
		t.Errorf("Tick(%d): %q, error %d, not %q", n, l, e, want)
	}
	if w.Now() != now+int64(n) {
		t.Errorf("Tick(%d): from %d to %d", n, now, w.Now())
	}
}

// left fails the test unless that many ticks are left till the name ends; 0, if it has no end.
func left(t *testing.T, w timer, name string, want int) {
	t.Helper()
	if n, is := w.Left(name); n != want || is != (want > 0) {
		t.Errorf("Left(%q): %d %t, not %d", name, n, is, want)
	}
}

// has fails the test unless the watch reads that, and just these names have an end.
func has(t *testing.T, w timer, now int64, want ...string) {
	t.Helper()
	if l := w.Names(); !slices.Equal(l, want) || w.Now() != now {
		t.Errorf("at %d are %q, not at %d %q", w.Now(), l, now, want)
	}
	for _, name := range want {
		if n, is := w.Left(name); n < 1 || !is {
			t.Errorf("Left(%q): %d %t", name, n, is)
		}
	}
}

// refused fails the test unless the calls are answered that error and nothing else, and nothing that is told has changed by them.
func refused(t *testing.T, w timer, want api.Errno, l ...call) {
	t.Helper()
	before := told(w, "", "a", "none")
	for _, c := range l {
		if a := made(w, c); a != (answer{spelt(nil), want}) {
			t.Errorf("%v: %v, not error %d", c, a, want)
		}
	}
	if after := told(w, "", "a", "none"); after != before {
		t.Errorf("%v, refused with %d, changed\n%sto\n%s", l, want, before, after)
	}
}
