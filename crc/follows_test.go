package crc_test

import (
	"bytes"
	"math"
	"math/bits"
	"testing"

	"berthmaster/crc"
)

func TestPartsMakeTheWhole(t *testing.T) {
	for _, b := range lists() {
		sum := crc.Sum(b)
		for _, cut := range []int{0, 1, 2, 31, len(b) / 2, len(b) - 1, len(b)} {
			if cut < 0 || cut > len(b) {
				continue
			}
			first := crc.Sum(b[:cut])
			if got := crc.More(first, b[cut:]); got != sum {
				t.Errorf("More of %d bytes, cut at %d: %#x, not %#x", len(b), cut, got, sum)
			}
			if got := joined(t, first, crc.Sum(b[cut:]), len(b)-cut); got != sum {
				t.Errorf("Joined of %d bytes, cut at %d: %#x, not %#x", len(b), cut, got, sum)
			}
		}
	}
}

func TestAnyPartsMakeTheWhole(t *testing.T) {
	b := mixed(40, 11)
	for end := range len(b) + 1 {
		for two := range end + 1 {
			for one := range two + 1 {
				tail := joined(t, crc.Sum(b[one:two]), crc.Sum(b[two:end]), end-two)
				if got, want := joined(t, crc.Sum(b[:one]), tail, end-one), crc.Sum(b[:end]); got != want {
					t.Fatalf("%d bytes, cut at %d and %d: %#x, not %#x", end, one, two, got, want)
				}
			}
		}
	}
}

// turned answers b with the bits of the pattern turned, from the bit start on; those behind its end are dropped.
func turned(b []byte, start int, pattern uint32) []byte {
	out := bytes.Clone(b)
	for ; pattern != 0; pattern &= pattern - 1 {
		if bit := start + bits.TrailingZeros32(pattern); bit < 8*len(b) {
			out[bit/8] ^= 1 << (bit % 8)
		}
	}
	return out
}

// patterns answers bits that are turned, the first one always: alone, each pair, runs, all of the first ten, many others.
func patterns() []uint32 {
	l := []uint32{1, math.MaxUint32, 0xEDB88321, 0x80000001, 0x04C11DB7}
	for one := range 32 {
		l = append(l, 1|1<<one, 1<<one-1|1)
		for two := range one {
			l = append(l, 1|1<<one|1<<two)
		}
	}
	for x := range uint32(512) {
		l = append(l, 2*x|1)
	}
	for x := range uint32(500) {
		l = append(l, x*0x9E3779B9|1)
	}
	return l
}

func TestTurnedBitsAreSeen(t *testing.T) {
	for _, b := range [][]byte{{0}, mixed(2, 1), mixed(4, 2), mixed(5, 3), mixed(9, 4), make([]byte, 12)} {
		sum := crc.Sum(b)
		for start := range 8 * len(b) {
			for _, pattern := range patterns() {
				if other := turned(b, start, pattern); crc.Sum(other) == sum {
					t.Fatalf("%v and %v have one sum, %#x", b, other, sum)
				}
			}
		}
	}
}

// TestNoTurnedBitsCancelOut: what 32 bits side by side do to a sum can't be put together of what others of them do: so no choice of them is lost.
func TestNoTurnedBitsCancelOut(t *testing.T) {
	for _, n := range []int{4, 5, 8, 64, 1000} {
		b := mixed(n, uint64(n))
		for _, start := range []int{0, 1, 5, 8*n/2 - 16, 8*n - 33, 8*n - 32} {
			if start < 0 || start+32 > 8*n {
				continue
			}
			if rank := independent(b, start); rank != 32 {
				t.Errorf("%d bytes, from bit %d on: only %d bits of 32 stand for themselves", n, start, rank)
			}
		}
	}
}

// independent answers how many of the changes that the 32 bits from start on make to the sum are not xors of others.
func independent(b []byte, start int) int {
	var leaders [32]uint32
	rank := 0
	for i := range 32 {
		change := crc.Sum(b) ^ crc.Sum(turned(b, start, 1<<i))
		for change != 0 && leaders[bits.LeadingZeros32(change)] != 0 {
			change ^= leaders[bits.LeadingZeros32(change)]
		}
		if change != 0 {
			leaders[bits.LeadingZeros32(change)] = change
			rank++
		}
	}
	return rank
}

// heard answers all that the calls say to some arguments.
func heard(sum uint32, at, n int) []uint32 {
	b := mixed(int(sum%7), uint64(n))
	zeros, e := crc.Zeros(sum, n)
	joined, f := crc.Joined(sum, uint32(at), n)
	changed, g := crc.Changed(sum, at, byte(sum), byte(n), n)
	return []uint32{crc.Sum(b), crc.More(sum, b), zeros, uint32(e), joined, uint32(f), changed, uint32(g)}
}

// TestCallsEndAlike makes the same calls twice: they end without a panic, and hang on nothing but their arguments.
func TestCallsEndAlike(t *testing.T) {
	l := []int{math.MinInt, math.MinInt + 1, -most, -2, -1}
	l = append(l, counts()...)
	for _, n := range l {
		for _, at := range []int{math.MinInt, -1, 0, 1, n / 2, n, most, math.MaxInt} {
			for _, sum := range []uint32{0, 5, math.MaxUint32} {
				one, two := heard(sum, at, n), heard(sum, at, n)
				for i := range one {
					if one[i] != two[i] {
						t.Fatalf("calls at %#x, %d, %d answered %v and %v", sum, at, n, one, two)
					}
				}
			}
		}
	}
}
