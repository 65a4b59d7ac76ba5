package crc_test

import (
	"bytes"
	"hash/crc32"
	"testing"

	"berthmaster/crc"
)

// defined answers the checksum of bytes with the checksum sum and b behind them, in the chapter's own words.
func defined(sum uint32, b []byte) uint32 {
	sum = 1<<32 - 1 - sum
	for _, x := range b {
		sum ^= uint32(x)
		for range 8 {
			if sum%2 == 1 {
				sum = sum/2 ^ 0xEDB88320
			} else {
				sum /= 2
			}
		}
	}
	return 1<<32 - 1 - sum
}

// mixed answers n bytes without a visible order, others for each seed.
func mixed(n int, seed uint64) []byte {
	b := make([]byte, n)
	for i := range b {
		seed = seed*6364136223846793005 + 1442695040888963407
		b[i] = byte(seed >> 56)
	}
	return b
}

// rising answers the bytes 0 to n - 1.
func rising(n int) []byte {
	b := make([]byte, n)
	for i := range b {
		b[i] = byte(i)
	}
	return b
}

// lists answers bytes to be summed: none, each byte alone, short ones of every length, long ones.
func lists() [][]byte {
	l := [][]byte{nil, {}, []byte("123456789"), make([]byte, 1000), rising(256)}
	for x := range 256 {
		l = append(l, []byte{byte(x)})
	}
	for n := range 70 {
		l = append(l, mixed(n, uint64(n)), bytes.Repeat([]byte{255}, n))
	}
	return append(l, mixed(4096, 1), mixed(65537, 2), mixed(1<<20, 3))
}

// sums answers sums of every kind: few bits, many bits, none, all.
func sums() []uint32 {
	l := []uint32{0, 1, 0xCBF43926, 0xEDB88320, 0x7FFFFFFF, 0x80000000, 0xD202EF8D, 1<<32 - 2, 1<<32 - 1}
	for bit := range 32 {
		l = append(l, 1<<bit, ^uint32(1<<bit), 0x9E3779B9*uint32(bit+1))
	}
	return l
}

func TestSum(t *testing.T) {
	for _, c := range []struct {
		b    []byte
		want uint32
	}{
		{nil, 0},
		{[]byte{}, 0},
		{[]byte{0}, 0xD202EF8D},
		{[]byte{255}, 0xFF000000},
		{[]byte("a"), 0xE8B7BE43},
		{[]byte("abc"), 0x352441C2},
		{[]byte("123456789"), 0xCBF43926},
		{[]byte("The quick brown fox jumps over the lazy dog"), 0x414FA339},
		{make([]byte, 32), 0x190A55AD},
		{bytes.Repeat([]byte{255}, 32), 0xFF6CAB0B},
		{rising(32), 0x91267E8A},
		{rising(256), 0x29058C73},
	} {
		if sum := crc.Sum(c.b); sum != c.want {
			t.Errorf("Sum of %v: %#x, not %#x", c.b, sum, c.want)
		}
	}
	for _, b := range lists() {
		if sum, want := crc.Sum(b), defined(0, b); sum != want || sum != crc32.ChecksumIEEE(b) {
			t.Errorf("Sum of %d bytes: %#x, not %#x", len(b), sum, want)
		}
	}
}

func TestMore(t *testing.T) {
	if sum := crc.More(crc.Sum([]byte("1234")), []byte("56789")); sum != 0xCBF43926 {
		t.Errorf("More of 1234, 56789: %#x", sum)
	}
	for _, sum := range sums() {
		for _, b := range [][]byte{nil, {}, {0}, {255}, {7, 0}, make([]byte, 5), mixed(100, uint64(sum))} {
			if more, want := crc.More(sum, b), defined(sum, b); more != want || more != crc32.Update(sum, crc32.IEEETable, b) {
				t.Errorf("More of %#x, %v: %#x, not %#x", sum, b, more, want)
			}
		}
		for _, b := range [][]byte{nil, {}} {
			if more := crc.More(sum, b); more != sum {
				t.Errorf("More of %#x and no bytes: %#x", sum, more)
			}
		}
	}
}

// TestMoreOfWhateverBytes: each sum is that of four bytes, and more behind these is summed as more behind it.
func TestMoreOfWhateverBytes(t *testing.T) {
	for _, sum := range sums() {
		b := withSum(sum)
		if got := crc.Sum(b); got != sum {
			t.Fatalf("Sum of %v: %#x, not %#x", b, got, sum)
		}
		more := mixed(33, uint64(sum))
		if got, want := crc.More(sum, more), crc.Sum(append(b, more...)); got != want {
			t.Errorf("More of %#x: %#x, not %#x", sum, got, want)
		}
	}
}

// withSum answers four bytes with the checksum sum: the definition, gone through from its end on.
func withSum(sum uint32) []byte {
	state := ^sum
	for range 32 {
		if state>>31 == 1 {
			state = (state^0xEDB88320)<<1 | 1
		} else {
			state <<= 1
		}
	}
	state = ^state
	return []byte{byte(state), byte(state >> 8), byte(state >> 16), byte(state >> 24)}
}

func TestWhatIsHandedInStays(t *testing.T) {
	memory := mixed(100, 5)
	want := bytes.Clone(memory)
	for _, n := range []int{0, 1, 50, 100} {
		if got := crc.Sum(memory[:n]); got != defined(0, want[:n]) {
			t.Errorf("Sum of %d bytes with spare room: %#x", n, got)
		}
		if got := crc.More(9, memory[:n]); got != defined(9, want[:n]) {
			t.Errorf("More of %d bytes with spare room: %#x", n, got)
		}
		if !bytes.Equal(memory, want) {
			t.Fatalf("%d bytes were handed in, and changed", n)
		}
	}
}
