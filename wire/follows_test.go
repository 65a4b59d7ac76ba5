package wire_test

import (
	"bytes"
	"math"
	"slices"
	"testing"

	"berthmaster/api"
	"berthmaster/wire"
)

// behind answers bytes that may stand behind what is read.
func behind() [][]byte {
	return [][]byte{nil, {0}, {1}, {127}, {128}, {255}, repeated(255, 12)}
}

func TestNumbersAreReadBack(t *testing.T) {
	for _, more := range behind() {
		for _, x := range numbers() {
			b := wire.AppendUint(nil, x)
			got, n, e := wire.ReadUint(append(b[:len(b):len(b)], more...))
			if got != x || n != len(b) || e != api.OK {
				t.Errorf("ReadUint of %d with %v behind: %d, %d bytes, error %d", x, more, got, n, e)
			}
			for n := range b {
				if _, _, e := wire.ReadUint(b[:n]); e != api.ErrShort {
					t.Errorf("ReadUint of the first %d bytes of %d: error %d", n, x, e)
				}
			}
		}
	}
}

func TestAppendedIsReadBack(t *testing.T) {
	for _, more := range behind() {
		for _, x := range numbers() {
			readBack(t, wire.AppendUint(nil, x), more, uintStep(x))
			if x <= math.MaxInt {
				readBack(t, wire.AppendUint(nil, x), more, countStep(int(x), int(x)))
			}
		}
		for _, x := range signed() {
			readBack(t, wire.AppendInt(nil, x), more, intStep(x))
		}
		for _, s := range texts() {
			readBack(t, text(t, nil, s), more, textStep(s))
		}
		readBack(t, wire.AppendBool(nil, true), more, boolStep(true))
		readBack(t, wire.AppendBool(nil, false), more, boolStep(false))
	}
}

func readBack(t *testing.T, b, more []byte, s step) {
	t.Helper()
	r := wire.New(append(b[:len(b):len(b)], more...))
	play(t, r, s)
	stands(t, r, len(b), api.OK)
}

func TestMixedThingsAreReadBack(t *testing.T) {
	var b []byte
	for i, x := range signed() {
		b = wire.AppendInt(b, x)
		b = wire.AppendBool(b, i%3 == 0)
		b = text(t, b, texts()[i%8])
		b = wire.AppendUint(b, uint64(x))
	}
	r := wire.New(b)
	for i, x := range signed() {
		play(t, r, intStep(x))
		play(t, r, boolStep(i%3 == 0))
		play(t, r, textStep(texts()[i%8]))
		play(t, r, uintStep(uint64(x)))
	}
	if e := r.Done(); e != api.OK {
		t.Errorf("Done: %d at %d of %d", e, r.At(), len(b))
	}
}

func TestNoNumberBeginsAnother(t *testing.T) {
	l := numbers()
	slices.Sort(l)
	l = slices.Compact(l)
	for i, x := range l {
		for j, y := range l {
			if i != j && bytes.HasPrefix(wire.AppendUint(nil, y), wire.AppendUint(nil, x)) {
				t.Errorf("the bytes of %d begin those of %d", x, y)
			}
		}
	}
}

// everyBytes hands over all bytes of a length that are made of some digits.
func everyBytes(length int, digits []byte, hand func(b []byte)) {
	var grow func(b []byte)
	grow = func(b []byte) {
		if len(b) == length {
			hand(b)
			return
		}
		for _, d := range digits {
			grow(append(b, d))
		}
	}
	grow(nil)
}

// someBytes hands over all bytes up to 2, all of edges up to 5, and many behind eight digits that are not the last.
func someBytes(hand func(b []byte)) {
	all := make([]byte, 256)
	for i := range all {
		all[i] = byte(i)
	}
	edges := []byte{0, 1, 2, 'a', 127, 128, 129, 255}
	for length := range 3 {
		everyBytes(length, all, hand)
	}
	for length := range 6 {
		everyBytes(length, edges, hand)
	}
	for length := range 4 {
		for _, first := range []byte{128, 129, 255} {
			everyBytes(length, edges, func(b []byte) { hand(append(repeated(first, 8), b...)) })
		}
	}
}

func TestNoOtherBytesAreRead(t *testing.T) {
	someBytes(func(b []byte) {
		if x, n, e := wire.ReadUint(b); e == api.OK && !bytes.Equal(wire.AppendUint(nil, x), b[:n]) {
			t.Fatalf("ReadUint of %v: %d in %d bytes", b, x, n)
		}
		one := func(read func(r *wire.Reader) []byte) {
			r := wire.New(b)
			if again := read(r); r.Err() == api.OK && !bytes.Equal(again, b[:r.At()]) {
				t.Fatalf("a reader of %v read %v of the first %d bytes", b, again, r.At())
			}
		}
		one(func(r *wire.Reader) []byte { return wire.AppendUint(nil, r.Uint()) })
		one(func(r *wire.Reader) []byte { return wire.AppendInt(nil, r.Int()) })
		one(func(r *wire.Reader) []byte { return wire.AppendBool(nil, r.Bool()) })
		one(func(r *wire.Reader) []byte { return text(t, nil, r.Text()) })
		one(func(r *wire.Reader) []byte { return wire.AppendUint(nil, uint64(r.Count(1<<40))) })
	})
}

// steps answers the reading calls that a number picks, with whatever they answer put into words of bytes.
func steps(b []byte, pick uint64) []byte {
	r := wire.New(b)
	var heard []byte
	for range 12 {
		pick = pick*6364136223846793005 + 1442695040888963407
		switch pick >> 60 {
		case 0, 1, 2, 3:
			heard = wire.AppendUint(heard, r.Uint())
		case 4, 5, 6:
			heard = wire.AppendInt(heard, r.Int())
		case 7, 8, 9:
			heard = wire.AppendBool(heard, r.Bool())
		case 10, 11:
			heard = append(heard, r.Text()...)
		case 12, 13:
			heard = wire.AppendInt(heard, int64(r.Count(int(pick>>30)%1000)))
		case 14:
			heard = wire.AppendInt(heard, int64(r.Count(int(int8(pick>>40)))))
		default:
			r.Fail(api.Errno(pick >> 50 & 3))
		}
		heard = wire.AppendInt(wire.AppendInt(heard, int64(r.At())), int64(r.Err()))
	}
	return wire.AppendInt(heard, int64(r.Done()))
}

// TestCallsEndAlike plays the same calls twice: they end without a panic, and hang on nothing but what was done.
func TestCallsEndAlike(t *testing.T) {
	var pick uint64
	someBytes(func(b []byte) {
		pick++
		if !bytes.Equal(steps(b, pick), steps(b, pick)) {
			t.Fatalf("calls at %v answered two things", b)
		}
	})
}
