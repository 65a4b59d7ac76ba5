package crc_test

import (
	"bytes"
	"math"
	"testing"

	"berthmaster/api"
	"berthmaster/crc"
)

// changed answers Changed of what must be good.
func changed(t *testing.T, sum uint32, at int, old, new byte, n int) uint32 {
	t.Helper()
	out, e := crc.Changed(sum, at, old, new, n)
	if e != api.OK {
		t.Errorf("Changed of %#x, %d, %d, %d, %d: error %d", sum, at, old, new, n, e)
	}
	return out
}

func TestChanged(t *testing.T) {
	if got := changed(t, crc.Sum([]byte("123456780")), 8, '0', '9', 9); got != 0xCBF43926 {
		t.Errorf("Changed of 123456780: %#x", got)
	}
	if got := changed(t, crc.Sum([]byte{7}), 0, 7, 200, 1); got != crc.Sum([]byte{200}) {
		t.Errorf("Changed of one byte: %#x", got)
	}
	for _, c := range []struct {
		at, n int
		want  uint32
	}{
		{0, most, 0xBD2878B4},
		{most - 1, most, 0xB2288182},
		{1 << 61, most, 0x264CBA02},
		{0, math.MaxInt, 0xCBF439B6},
	} {
		if got := changed(t, 0xCBF43926, c.at, '0', '9', c.n); got != c.want {
			t.Errorf("Changed of 0xCBF43926, %d of %d: %#x, not %#x", c.at, c.n, got, c.want)
		}
	}
}

// TestChangedOfWhateverSums holds Changed against its words, for sums that the bytes can't have too.
func TestChangedOfWhateverSums(t *testing.T) {
	for _, n := range counts()[1:] {
		for _, at := range []int{0, n / 3, n / 2, n - 1} {
			for i, sum := range sums() {
				old, new := byte(i*37), byte(i*i+n%13)
				d := crc.Sum([]byte{old}) ^ crc.Sum([]byte{new})
				if got, want := changed(t, sum, at, old, new, n), sum^joined(t, d, 0, n-1-at); got != want {
					t.Fatalf("Changed of %#x, %d, %d, %d, %d: %#x, not %#x", sum, at, old, new, n, got, want)
				}
			}
		}
	}
}

func TestChangedOutside(t *testing.T) {
	for _, c := range []struct{ at, n int }{
		{0, 0}, {-1, 0}, {1, 0}, {math.MinInt, 0}, {math.MaxInt, 0},
		{0, -1}, {-1, -1}, {-2, -1}, {-3, -2}, {-1, -2},
		{0, math.MinInt}, {math.MinInt, math.MinInt}, {math.MaxInt, math.MinInt},
		{1, 1}, {-1, 1}, {2, 1},
		{9, 9}, {10, 9}, {-1, 9}, {math.MaxInt, 9}, {math.MinInt, 9},
		{most, most}, {most + 1, most}, {-1, most},
		{math.MaxInt, math.MaxInt}, {-1, math.MaxInt}, {math.MinInt, math.MaxInt},
	} {
		for _, sum := range []uint32{0, 5, 0xCBF43926} {
			for _, new := range []byte{3, 4} {
				if out, e := crc.Changed(sum, c.at, 3, new, c.n); out != 0 || e != api.ErrArg {
					t.Errorf("Changed of %#x, %d, 3, %d, %d: %#x, error %d", sum, c.at, new, c.n, out, e)
				}
			}
		}
	}
}

func TestChangedIsSumOfTheChanged(t *testing.T) {
	for _, n := range []int{1, 2, 3, 9, 64, 300} {
		b := mixed(n, uint64(n))
		sum := crc.Sum(b)
		for at, old := range b {
			for _, new := range []byte{0, 1, 128, 255, old, old ^ 1, old ^ 128, ^old} {
				other := bytes.Clone(b)
				other[at] = new
				if got, want := changed(t, sum, at, old, new, n), crc.Sum(other); got != want {
					t.Fatalf("Changed of %d bytes, at %d from %d to %d: %#x, not %#x", n, at, old, new, got, want)
				}
			}
		}
	}
	for x := range 1 << 16 {
		old, new := byte(x), byte(x>>8)
		if got, want := changed(t, crc.Sum([]byte{9, old, 9}), 1, old, new, 3), crc.Sum([]byte{9, new, 9}); got != want {
			t.Fatalf("Changed from %d to %d: %#x, not %#x", old, new, got, want)
		}
	}
}
