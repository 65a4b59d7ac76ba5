package wire_test

import (
	"bytes"
	"math"
	"strings"
	"testing"

	"berthmaster/api"
	"berthmaster/wire"
)

// numbers answers numbers around each edge where one more digit is needed, the least and the greatest.
func numbers() []uint64 {
	l := []uint64{0, 1, 2, 300, 1e9, 1e18, math.MaxUint64 - 1, math.MaxUint64}
	for shift := 1; shift < 64; shift++ {
		edge := uint64(1) << shift
		l = append(l, edge-1, edge, edge+1)
	}
	return l
}

// signed answers signed numbers on both sides of 0 and of the edges.
func signed() []int64 {
	l := []int64{math.MinInt64, math.MinInt64 + 1, math.MaxInt64 - 1, math.MaxInt64}
	for _, x := range numbers() {
		l = append(l, int64(x), -int64(x), int64(x>>1), -int64(x>>1)-1)
	}
	return l
}

// texts answers texts that are empty, short, not of runes, and as long as may be.
func texts() []string {
	l := []string{"", "a", "ab", "\x00", "\xff\x80", "üß€", strings.Repeat("x", 127), strings.Repeat("y", 128)}
	return append(l, strings.Repeat("\x80", api.MaxText-1), strings.Repeat("z", api.MaxText))
}

// divided answers a number's bytes as the chapter says them, by division.
func divided(x uint64) []byte {
	if x < 128 {
		return []byte{byte(x)}
	}
	return append([]byte{byte(x%128 + 128)}, divided(x/128)...)
}

// text answers a text's bytes, and fails the test where it has none.
func text(t *testing.T, b []byte, s string) []byte {
	t.Helper()
	out, e := wire.AppendText(b, s)
	if e != api.OK {
		t.Fatalf("AppendText of %d bytes: error %d", len(s), e)
	}
	return out
}

// repeated answers the byte x, n times, with more behind it.
func repeated(x byte, n int, more ...byte) []byte {
	return append(bytes.Repeat([]byte{x}, n), more...)
}

func TestAppendUint(t *testing.T) {
	for _, c := range []struct {
		x    uint64
		want []byte
	}{
		{0, []byte{0}},
		{1, []byte{1}},
		{127, []byte{127}},
		{128, []byte{128, 1}},
		{300, []byte{172, 2}},
		{16383, []byte{255, 127}},
		{16384, []byte{128, 128, 1}},
		{1<<63 - 1, repeated(255, 8, 127)},
		{1 << 63, repeated(128, 9, 1)},
		{math.MaxUint64, repeated(255, 9, 1)},
	} {
		if b := wire.AppendUint(nil, c.x); !bytes.Equal(b, c.want) {
			t.Errorf("AppendUint of %d: %v, not %v", c.x, b, c.want)
		}
	}
	for _, x := range numbers() {
		want := append([]byte{9, 200}, divided(x)...)
		if b := wire.AppendUint([]byte{9, 200}, x); !bytes.Equal(b, want) {
			t.Errorf("AppendUint of %d behind 9 200: %v, not %v", x, b, want)
		}
	}
}

func TestAppendInt(t *testing.T) {
	for _, c := range []struct {
		x    int64
		want []byte
	}{
		{0, []byte{0}},
		{-1, []byte{1}},
		{1, []byte{2}},
		{-64, []byte{127}},
		{64, []byte{128, 1}},
		{-65, []byte{129, 1}},
		{math.MaxInt64, append(repeated(254, 1), repeated(255, 8, 1)...)},
		{math.MinInt64, repeated(255, 9, 1)},
	} {
		if b := wire.AppendInt(nil, c.x); !bytes.Equal(b, c.want) {
			t.Errorf("AppendInt of %d: %v, not %v", c.x, b, c.want)
		}
	}
	for _, x := range signed() {
		twice := 2 * uint64(x)
		if x < 0 {
			twice = -twice - 1
		}
		want := append([]byte{7}, divided(twice)...)
		if b := wire.AppendInt([]byte{7}, x); !bytes.Equal(b, want) {
			t.Errorf("AppendInt of %d behind 7: %v, not %v", x, b, want)
		}
	}
}

func TestAppendBool(t *testing.T) {
	if b := wire.AppendBool(nil, true); !bytes.Equal(b, []byte{1}) {
		t.Errorf("AppendBool of true: %v", b)
	}
	if b := wire.AppendBool([]byte{5, 6}, false); !bytes.Equal(b, []byte{5, 6, 0}) {
		t.Errorf("AppendBool of false behind 5 6: %v", b)
	}
}

func TestAppendText(t *testing.T) {
	if b := text(t, nil, "ab"); !bytes.Equal(b, []byte{2, 'a', 'b'}) {
		t.Errorf("AppendText of ab: %v", b)
	}
	for _, s := range texts() {
		want := append(append([]byte{3}, divided(uint64(len(s)))...), s...)
		if b := text(t, []byte{3}, s); !bytes.Equal(b, want) {
			t.Errorf("AppendText of %d bytes: %d bytes, not %d", len(s), len(b), len(want))
		}
	}
	for _, more := range []int{1, 2, 1 << 20} {
		b, e := wire.AppendText([]byte{3}, strings.Repeat("x", api.MaxText+more))
		if e != api.ErrLong || b != nil {
			t.Errorf("AppendText of %d bytes too many: %d bytes, error %d", more, len(b), e)
		}
	}
}

// appends answers each appending call with something to append, long and short.
func appends() map[string]func(b []byte) []byte {
	long := strings.Repeat("t", 1000)
	return map[string]func(b []byte) []byte{
		"AppendUint":       func(b []byte) []byte { return wire.AppendUint(b, 5) },
		"AppendUint, long": func(b []byte) []byte { return wire.AppendUint(b, math.MaxUint64) },
		"AppendInt":        func(b []byte) []byte { return wire.AppendInt(b, -5) },
		"AppendInt, long":  func(b []byte) []byte { return wire.AppendInt(b, math.MinInt64) },
		"AppendBool":       func(b []byte) []byte { return wire.AppendBool(b, true) },
		"AppendText":       func(b []byte) []byte { out, _ := wire.AppendText(b, ""); return out },
		"AppendText, long": func(b []byte) []byte { out, _ := wire.AppendText(b, long); return out },
	}
}

// scribble writes over all of b and over its spare room.
func scribble(b []byte, x byte) {
	all := b[:cap(b)]
	for i := range all {
		all[i] = x
	}
}

func TestAnswersAreNewMemory(t *testing.T) {
	for name, call := range appends() {
		for _, size := range []int{0, 1, 3, 50} {
			memory := repeated(17, size+2000)
			one := call(memory[:size])
			two := call(memory[:size])
			if !bytes.Equal(memory, repeated(17, size+2000)) {
				t.Errorf("%s behind %d bytes: it wrote into what was handed in", name, size)
			}
			kept := bytes.Clone(two)
			scribble(one, 99)
			if !bytes.Equal(memory, repeated(17, size+2000)) {
				t.Errorf("%s behind %d bytes: its answer shares memory with what was handed in", name, size)
			}
			if !bytes.Equal(two, kept) {
				t.Errorf("%s behind %d bytes: two answers share memory", name, size)
			}
			scribble(memory, 98)
			if !bytes.Equal(two, kept) {
				t.Errorf("%s behind %d bytes: its answer hangs on what was handed in", name, size)
			}
		}
	}
}

func TestNilIsEmpty(t *testing.T) {
	for name, call := range appends() {
		if !bytes.Equal(call(nil), call([]byte{})) {
			t.Errorf("%s: nil and empty bytes differ", name)
		}
	}
	if _, _, e := wire.ReadUint(nil); e != api.ErrShort {
		t.Errorf("ReadUint of nil: error %d", e)
	}
	for _, r := range []*wire.Reader{wire.New(nil), wire.New([]byte{})} {
		if e := r.Err(); e != api.OK {
			t.Errorf("a reader of nothing: error %d", e)
		}
		if e := r.Done(); e != api.OK {
			t.Errorf("a reader of nothing is not done: error %d", e)
		}
	}
}
