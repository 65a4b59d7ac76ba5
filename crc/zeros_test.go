package crc_test

import (
	"hash/crc32"
	"math"
	"testing"
	"time"

	"berthmaster/api"
	"berthmaster/crc"
)

const most = 1 << 62 // zeros that the chapter names as the most

// zeros answers Zeros of what must be good.
func zeros(t *testing.T, sum uint32, n int) uint32 {
	t.Helper()
	out, e := crc.Zeros(sum, n)
	if e != api.OK {
		t.Errorf("Zeros of %#x, %d: error %d", sum, n, e)
	}
	return out
}

// joined answers Joined of what must be good.
func joined(t *testing.T, a, b uint32, n int) uint32 {
	t.Helper()
	out, e := crc.Joined(a, b, n)
	if e != api.OK {
		t.Errorf("Joined of %#x, %#x, %d: error %d", a, b, n, e)
	}
	return out
}

// manyZeros answers sum with n zeros behind, each of them really gone over.
func manyZeros(sum uint32, n int) uint32 {
	chunk := make([]byte, 1<<20)
	for ; n > len(chunk); n -= len(chunk) {
		sum = crc32.Update(sum, crc32.IEEETable, chunk)
	}
	return crc32.Update(sum, crc32.IEEETable, chunk[:n])
}

// counts answers numbers of zeros on both sides of each edge, as far as the greatest int.
func counts() []int {
	l := []int{0, 1, 2, 3, 5, 7, 100, 1e9, 1e18, most, most - 1, most + 1, math.MaxInt - 1, math.MaxInt}
	for shift := 2; shift < 62; shift++ {
		l = append(l, 1<<shift-1, 1<<shift, 1<<shift+1)
	}
	return l
}

func TestZerosOfFew(t *testing.T) {
	if got := zeros(t, 0, 1); got != 0xD202EF8D {
		t.Errorf("Zeros of 0, 1: %#x", got)
	}
	for _, sum := range sums() {
		want := sum
		for n := range 600 {
			if got := zeros(t, sum, n); got != want {
				t.Fatalf("Zeros of %#x, %d: %#x, not %#x", sum, n, got, want)
			}
			want = defined(want, []byte{0})
		}
	}
}

func TestZerosOfMany(t *testing.T) {
	for _, n := range []int{1<<16 - 1, 1 << 16, 1<<20 + 1, 12345678, 1<<28 - 1, 1<<28 + 3} {
		for _, sum := range []uint32{0, 0xCBF43926} {
			if got, want := zeros(t, sum, n), manyZeros(sum, n); got != want {
				t.Errorf("Zeros of %#x, %d: %#x, not %#x", sum, n, got, want)
			}
		}
	}
}

// TestZerosOfMore: the numbers wanted were reckoned elsewhere, by powers of x modulo the polynomial.
func TestZerosOfMore(t *testing.T) {
	for _, c := range []struct {
		n         int
		zero, sum uint32
	}{
		{1 << 20, 0xA738EA1C, 0xB88AFB81},
		{1<<32 - 2, 0x0F6A7026, 0x9AE0DA96},
		{1<<32 - 1, 0, 0xCBF43926},
		{1 << 32, 0xD202EF8D, 0x00C49E49},
		{1<<40 + 12345, 0x758C8EC9, 0x273CB812},
		{1<<61 - 1, 0x6A0DBB33, 0x20C8EE6B},
		{most - 1, 0xB506DD99, 0x90647735},
		{most, 0x5B64C2B0, 0x84214FD9},
		{math.MaxInt, 0x00F93446, 0x09A19EED},
	} {
		if got := zeros(t, 0, c.n); got != c.zero {
			t.Errorf("Zeros of 0, %d: %#x, not %#x", c.n, got, c.zero)
		}
		if got := zeros(t, 0xCBF43926, c.n); got != c.sum {
			t.Errorf("Zeros of 0xCBF43926, %d: %#x, not %#x", c.n, got, c.sum)
		}
		if got := zeros(t, math.MaxUint32, c.n); got != math.MaxUint32 {
			t.Errorf("Zeros of all bits, %d: %#x", c.n, got)
		}
	}
}

// TestZerosAddUp: the polynomial brings each sum back behind 2^32 - 1 zeros, and zeros behind zeros are as many together.
func TestZerosAddUp(t *testing.T) {
	for _, n := range counts() {
		for _, sum := range []uint32{0, 1, 0xCBF43926, 1 << 31} {
			got := zeros(t, sum, n)
			if want := zeros(t, sum, n%(1<<32-1)); got != want {
				t.Errorf("Zeros of %#x, %d: %#x, not %#x", sum, n, got, want)
			}
			if want := zeros(t, zeros(t, sum, n/3), n-n/3); got != want {
				t.Errorf("Zeros of %#x, %d, in two parts: %#x, not %#x", sum, n, want, got)
			}
		}
	}
}

// ends fails the test where calls that take some thousands of steps each have not ended in ample time.
func ends(t *testing.T, calls func()) {
	t.Helper()
	done := make(chan struct{})
	go func() {
		calls()
		close(done)
	}()
	select {
	case <-done:
	case <-time.After(30 * time.Second):
		t.Fatal("calls have not ended yet")
	}
}

func TestGreatNumbersTakeFewSteps(t *testing.T) {
	ends(t, func() {
		for range 100 {
			for _, n := range []int{most, most - 1, math.MaxInt} {
				crc.Zeros(5, n)
				crc.Joined(5, 6, n)
				crc.Changed(5, 0, 1, 2, n)
			}
		}
	})
}

func TestBelowNoZeros(t *testing.T) {
	for _, n := range []int{-1, -2, -1 << 32, -most, math.MinInt + 1, math.MinInt} {
		for _, sum := range sums() {
			if out, e := crc.Zeros(sum, n); out != 0 || e != api.ErrArg {
				t.Errorf("Zeros of %#x, %d: %#x, error %d", sum, n, out, e)
			}
			if out, e := crc.Joined(sum, ^sum, n); out != 0 || e != api.ErrArg {
				t.Errorf("Joined of %#x, %#x, %d: %#x, error %d", sum, ^sum, n, out, e)
			}
		}
	}
}

func TestJoined(t *testing.T) {
	if got := joined(t, crc.Sum([]byte("1234")), crc.Sum([]byte("56789")), 5); got != 0xCBF43926 {
		t.Errorf("Joined of 1234, 56789: %#x", got)
	}
	for _, c := range []struct {
		n    int
		want uint32
	}{
		{0, 0xCBF43926 ^ 0x12345678},
		{1<<32 - 1, 0xCBF43926 ^ 0x12345678},
		{most, 0xCD71DB11},
		{math.MaxInt, 0x1B6CFCD3},
	} {
		if got := joined(t, 0xCBF43926, 0x12345678, c.n); got != c.want {
			t.Errorf("Joined of 0xCBF43926, 0x12345678, %d: %#x, not %#x", c.n, got, c.want)
		}
	}
}

// TestJoinedOfWhateverSums takes sums for n bytes that have no such sum too.
func TestJoinedOfWhateverSums(t *testing.T) {
	for _, n := range counts() {
		bare := zeros(t, 0, n)
		for i, a := range sums() {
			b := sums()[(i*7+n%101)%len(sums())]
			if got, want := joined(t, a, b, n), zeros(t, a, n)^bare^b; got != want {
				t.Fatalf("Joined of %#x, %#x, %d: %#x, not %#x", a, b, n, got, want)
			}
		}
	}
}
