package wire_test

import (
	"bytes"
	"fmt"
	"math"
	"strings"
	"testing"

	"berthmaster/api"
	"berthmaster/wire"
)

// unreadable answers bytes at whose beginning is no number, with the error that they have.
func unreadable() []struct {
	b []byte
	e api.Errno
} {
	return []struct {
		b []byte
		e api.Errno
	}{
		{nil, api.ErrShort},
		{[]byte{128}, api.ErrShort},
		{[]byte{255, 255}, api.ErrShort},
		{repeated(255, 9), api.ErrShort},
		{repeated(128, 9), api.ErrShort},
		{[]byte{128, 0}, api.ErrBad},
		{[]byte{255, 0}, api.ErrBad},
		{[]byte{128, 128, 0, 1}, api.ErrBad},
		{repeated(128, 8, 0), api.ErrBad},
		{repeated(128, 9, 0), api.ErrBad},
		{repeated(255, 9, 0), api.ErrBad},
		{repeated(128, 9, 2), api.ErrBad},
		{repeated(255, 9, 3), api.ErrBad},
		{repeated(128, 9, 127), api.ErrBad},
		{repeated(128, 9, 128), api.ErrBad},
		{repeated(128, 9, 129), api.ErrBad},
		{repeated(128, 9, 129, 0), api.ErrBad},
		{repeated(128, 9, 129, 1), api.ErrBad},
		{repeated(255, 10), api.ErrBad},
		{repeated(255, 11), api.ErrBad},
	}
}

func TestReadUint(t *testing.T) {
	for _, c := range []struct {
		b []byte
		x uint64
		n int
	}{
		{[]byte{172, 2, 9}, 300, 2},
		{[]byte{0}, 0, 1},
		{[]byte{0, 0}, 0, 1},
		{[]byte{127, 255}, 127, 1},
		{[]byte{128, 1}, 128, 2},
		{[]byte{128, 1, 128}, 128, 2},
		{repeated(255, 8, 127), 1<<63 - 1, 9},
		{repeated(128, 9, 1), 1 << 63, 10},
		{repeated(255, 9, 1), math.MaxUint64, 10},
		{repeated(255, 9, 1, 255), math.MaxUint64, 10},
	} {
		if x, n, e := wire.ReadUint(c.b); x != c.x || n != c.n || e != api.OK {
			t.Errorf("ReadUint of %v: %d, %d bytes, error %d", c.b, x, n, e)
		}
	}
	for _, c := range unreadable() {
		if x, n, e := wire.ReadUint(c.b); x != 0 || n != 0 || e != c.e {
			t.Errorf("ReadUint of %v: %d, %d bytes, error %d, not %d", c.b, x, n, e, c.e)
		}
	}
}

func TestReadingLooksAtNoSpareRoom(t *testing.T) {
	memory := []byte{128, 1, 1, 1, 1}
	if x, n, e := wire.ReadUint(memory[:1]); x != 0 || n != 0 || e != api.ErrShort {
		t.Errorf("ReadUint: %d, %d bytes, error %d", x, n, e)
	}
	r := wire.New(memory[:0])
	if r.Bool() || r.Err() != api.ErrShort {
		t.Errorf("Bool: error %d", r.Err())
	}
	if !bytes.Equal(memory, []byte{128, 1, 1, 1, 1}) {
		t.Errorf("what was handed in was changed: %v", memory)
	}
}

// A step is a reading call, and what it is to answer.
type step struct {
	name string
	call func(r *wire.Reader) any
	want any
}

func uintStep(want uint64) step {
	return step{"Uint", func(r *wire.Reader) any { return r.Uint() }, want}
}

func intStep(want int64) step {
	return step{"Int", func(r *wire.Reader) any { return r.Int() }, want}
}

func boolStep(want bool) step {
	return step{"Bool", func(r *wire.Reader) any { return r.Bool() }, want}
}

func textStep(want string) step {
	return step{"Text", func(r *wire.Reader) any { return r.Text() }, want}
}

func countStep(most, want int) step {
	return step{"Count", func(r *wire.Reader) any { return r.Count(most) }, want}
}

// zeros answers each reading call with its zero value.
func zeros() []step {
	return []step{uintStep(0), intStep(0), boolStep(false), textStep(""), countStep(5, 0), countStep(-1, 0)}
}

func play(t *testing.T, r *wire.Reader, s step) {
	t.Helper()
	if got := s.call(r); got != s.want {
		t.Errorf("%s: %s, not %s", s.name, shown(got), shown(s.want))
	}
}

// shown tells what a call answered, of a text its beginning.
func shown(x any) string {
	s := fmt.Sprintf("%#v", x)
	return s[:min(len(s), 60)]
}

func stands(t *testing.T, r *wire.Reader, at int, e api.Errno) {
	t.Helper()
	if r.At() != at || r.Err() != e {
		t.Errorf("the reader is at %d with error %d, not at %d with %d", r.At(), r.Err(), at, e)
	}
}

// stopped holds the reader against what it must be once it stopped at a place with an error: nothing moves it any more.
func stopped(t *testing.T, r *wire.Reader, at int, e api.Errno) {
	t.Helper()
	stands(t, r, at, e)
	for _, s := range zeros() {
		play(t, r, s)
		stands(t, r, at, e)
	}
	r.Fail(api.ErrQuota)
	stands(t, r, at, e)
	if done := r.Done(); done != e {
		t.Errorf("Done: %d, not %d", done, e)
	}
	stands(t, r, at, e)
}

func TestReaderReadsOn(t *testing.T) {
	for _, c := range []struct {
		b []byte
		s step
		n int
	}{
		{[]byte{172, 2, 9}, uintStep(300), 2},
		{repeated(255, 9, 1, 9), uintStep(math.MaxUint64), 10},
		{[]byte{0, 9}, intStep(0), 1},
		{[]byte{1, 9}, intStep(-1), 1},
		{[]byte{2, 9}, intStep(1), 1},
		{[]byte{127, 9}, intStep(-64), 1},
		{[]byte{128, 1, 9}, intStep(64), 2},
		{repeated(255, 9, 1, 9), intStep(math.MinInt64), 10},
		{append([]byte{254}, repeated(255, 8, 1, 9)...), intStep(math.MaxInt64), 10},
		{[]byte{0, 9}, boolStep(false), 1},
		{[]byte{1, 9}, boolStep(true), 1},
		{[]byte{0, 9}, textStep(""), 1},
		{[]byte{2, 'a', 'b', 9}, textStep("ab"), 3},
		{[]byte{2, 255, 0, 9}, textStep("\xff\x00"), 3},
		{[]byte{0, 9}, countStep(0, 0), 1},
		{[]byte{5, 9}, countStep(5, 5), 1},
		{[]byte{172, 2, 9}, countStep(300, 300), 2},
		{repeated(255, 8, 127, 9), countStep(math.MaxInt, math.MaxInt), 9},
		{append(divided(api.MaxText), repeated('z', api.MaxText, 9)...), textStep(strings.Repeat("z", api.MaxText)), 3 + api.MaxText},
	} {
		r := wire.New(append([]byte{1}, c.b...))
		play(t, r, boolStep(true))
		stands(t, r, 1, api.OK)
		play(t, r, c.s)
		stands(t, r, 1+c.n, api.OK)
		play(t, r, uintStep(9))
		stands(t, r, 2+c.n, api.OK)
		if e := r.Done(); e != api.OK {
			t.Errorf("%s: Done: %d", c.s.name, e)
		}
		stands(t, r, 2+c.n, api.OK)
	}
}

func TestReaderStops(t *testing.T) {
	for _, c := range []struct {
		b []byte
		s step
		e api.Errno
	}{
		{nil, boolStep(false), api.ErrShort},
		{[]byte{2}, boolStep(false), api.ErrBad},
		{[]byte{128, 1}, boolStep(false), api.ErrBad},
		{[]byte{255}, boolStep(false), api.ErrBad},
		{[]byte{1}, textStep(""), api.ErrShort},
		{[]byte{3, 'a', 'b'}, textStep(""), api.ErrShort},
		{append(divided(api.MaxText), repeated('z', api.MaxText-1)...), textStep(""), api.ErrShort},
		{divided(api.MaxText), textStep(""), api.ErrShort},
		{append(divided(api.MaxText+1), repeated('z', api.MaxText+1)...), textStep(""), api.ErrLong},
		{divided(api.MaxText + 1), textStep(""), api.ErrLong},
		{divided(math.MaxUint64), textStep(""), api.ErrLong},
		{divided(1 << 63), textStep(""), api.ErrLong},
		{[]byte{1}, countStep(0, 0), api.ErrLong},
		{[]byte{6}, countStep(5, 0), api.ErrLong},
		{divided(301), countStep(300, 0), api.ErrLong},
		{divided(1 << 63), countStep(math.MaxInt, 0), api.ErrLong},
		{divided(math.MaxUint64), countStep(5, 0), api.ErrLong},
		{[]byte{0}, countStep(-1, 0), api.ErrArg},
		{nil, countStep(-1, 0), api.ErrArg},
		{[]byte{128, 0}, countStep(math.MinInt, 0), api.ErrArg},
	} {
		r := wire.New(append([]byte{1}, c.b...))
		play(t, r, boolStep(true))
		play(t, r, c.s)
		stopped(t, r, 1, c.e)
	}
	for _, c := range unreadable() {
		for _, s := range []step{uintStep(0), intStep(0), textStep(""), countStep(math.MaxInt, 0), countStep(0, 0)} {
			r := wire.New(append([]byte{2, 'a', 'b'}, c.b...))
			play(t, r, textStep("ab"))
			play(t, r, s)
			stopped(t, r, 3, c.e)
		}
	}
}

func TestFail(t *testing.T) {
	for _, e := range []api.Errno{api.ErrNil, api.ErrBad, api.ErrFit, 77, -3} {
		r := wire.New([]byte{7, 1, 1})
		play(t, r, uintStep(7))
		r.Fail(api.OK)
		stands(t, r, 1, api.OK)
		play(t, r, boolStep(true))
		r.Fail(e)
		stopped(t, r, 2, e)
	}
}

func TestDone(t *testing.T) {
	for left := 1; left < 4; left++ {
		r := wire.New(repeated(1, 1+left))
		play(t, r, boolStep(true))
		if e := r.Done(); e != api.ErrBad {
			t.Errorf("Done with %d bytes left: %d", left, e)
		}
		stopped(t, r, 1, api.ErrBad)
	}
	r := wire.New([]byte{7})
	play(t, r, uintStep(7))
	if e := r.Done(); e != api.OK {
		t.Errorf("Done: %d", e)
	}
	play(t, r, uintStep(0))
	stopped(t, r, 1, api.ErrShort)
}

func TestExamplesOfReaders(t *testing.T) {
	r := wire.New([]byte{1, 2, 'a', 'b', 7})
	play(t, r, boolStep(true))
	play(t, r, textStep("ab"))
	play(t, r, uintStep(7))
	if e := r.Done(); e != api.OK {
		t.Errorf("Done: %d", e)
	}
	r = wire.New([]byte{2})
	play(t, r, boolStep(false))
	stopped(t, r, 0, api.ErrBad)
}

func TestReaderThatNewDidNotAnswer(t *testing.T) {
	var none *wire.Reader
	for _, r := range []*wire.Reader{none, {}, new(wire.Reader)} {
		stopped(t, r, 0, api.ErrNil)
		r.Fail(api.OK)
		stopped(t, r, 0, api.ErrNil)
	}
}

func TestReaderKeepsItsOwnBytes(t *testing.T) {
	b := []byte{1, 2, 'a', 'b', 7}
	r := wire.New(b)
	play(t, r, boolStep(true))
	scribble(b, 255)
	play(t, r, textStep("ab"))
	play(t, r, uintStep(7))

	b = []byte{3, 2, 'a', 'b', 1}
	one, two := wire.New(b), wire.New(b)
	play(t, one, intStep(-2))
	play(t, one, textStep("ab"))
	stands(t, two, 0, api.OK)
	play(t, two, uintStep(3))
	stands(t, two, 1, api.OK)
	if !bytes.Equal(b, []byte{3, 2, 'a', 'b', 1}) {
		t.Errorf("what was handed in was changed: %v", b)
	}
}
