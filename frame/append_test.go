package frame_test

import (
	"bytes"
	"hash/crc32"
	"math"
	"testing"

	"berthmaster/api"
	"berthmaster/frame"
)

// mixed answers n bytes without a visible order, others for each seed.
func mixed(n int, seed uint64) []byte {
	b := make([]byte, n)
	for i := range b {
		seed = seed*6364136223846793005 + 1442695040888963407
		b[i] = byte(seed >> 56)
	}
	return b
}

// lowest answers the n lowest bytes of x, the lowest first.
func lowest(x uint64, n int) []byte {
	var b []byte
	for range n {
		b = append(b, byte(x%256))
		x /= 256
	}
	return b
}

// ownSum answers the checksum of b by itself, the lowest byte first.
func ownSum(b []byte) []byte {
	return lowest(uint64(crc32.ChecksumIEEE(b)), 4)
}

// headed answers a head of that kind and length, under the right sum, and that sum.
func headed(kind byte, size int) ([]byte, uint32) {
	head := append([]byte{kind}, lowest(uint64(size), 3)...)
	sum := crc32.ChecksumIEEE(head)
	return append(head, lowest(uint64(sum), 4)...), sum
}

// laid answers a frame's bytes in the chapter's own words, by another package's sums.
func laid(kind byte, body []byte) []byte {
	head, sum := headed(kind, len(body))
	whole := append(head, body...)
	return append(whole, lowest(uint64(crc32.Update(sum, crc32.IEEETable, body)), 4)...)
}

// frames answers frames with bodies of none, of one byte, around each edge of a length's byte, of text, of all kinds of bytes.
func frames() []api.Frame {
	l := []api.Frame{{}, {Kind: 1}, {Kind: 255, Body: []byte{}}, {Kind: 2, Body: []byte("ab")}, {Kind: 9, Body: make([]byte, 40)}}
	for _, n := range []int{1, 2, 3, 4, 5, 7, 8, 12, 100, 255, 256, 257, 4096, 65535, 65536, 65537} {
		l = append(l, api.Frame{Kind: byte(n * 37), Body: mixed(n, uint64(n))})
	}
	return append(l, api.Frame{Kind: 5, Body: bytes.Repeat([]byte{255}, 33)})
}

// longest answers a frame with as many bytes as one can have.
func longest() api.Frame {
	return api.Frame{Kind: 4, Body: mixed(api.MaxFrame, 8)}
}

// appended answers b with the frame's bytes, and fails the test where there is an error.
func appended(t *testing.T, b []byte, f api.Frame) []byte {
	t.Helper()
	out, e := frame.Append(b, f)
	if e != api.OK {
		t.Fatalf("Append of %d bytes: error %d", len(f.Body), e)
	}
	return out
}

// alike tells whether two frames say the same.
func alike(f, g api.Frame) bool {
	return f.Kind == g.Kind && bytes.Equal(f.Body, g.Body)
}

func TestAppend(t *testing.T) {
	for _, c := range []struct {
		f    api.Frame
		want []byte
	}{
		{api.Frame{Kind: 1}, []byte{1, 0, 0, 0, 0x79, 0xB8, 0xF8, 0x99, 0x79, 0xB8, 0xF8, 0x99}},
		{api.Frame{Kind: 2, Body: []byte("ab")}, []byte{2, 2, 0, 0, 0xF9, 0xC3, 0xC9, 0x88, 'a', 'b', 0x5A, 0x09, 0x90, 0x59}},
		{api.Frame{Kind: 0, Body: []byte{0}}, []byte{0, 1, 0, 0, 0x2B, 0xB5, 0x86, 0x20, 0, 0x78, 0x90, 0x9E, 0x7E}},
		{api.Frame{Kind: 255, Body: []byte{255, 255, 255}}, []byte{255, 3, 0, 0, 0xB4, 0x67, 0x07, 0xFD, 255, 255, 255, 0xF2, 0xC1, 0x70, 0x89}},
	} {
		if b := appended(t, nil, c.f); !bytes.Equal(b, c.want) {
			t.Errorf("Append of %v: %v, not %v", c.f, b, c.want)
		}
	}
	if b := appended(t, nil, api.Frame{Kind: 1}); len(b) != 12 {
		t.Errorf("Append of nothing: %d bytes", len(b))
	}
	for _, f := range frames() {
		if b := appended(t, nil, f); !bytes.Equal(b, laid(f.Kind, f.Body)) {
			t.Errorf("Append of %d bytes is not as the chapter says", len(f.Body))
		}
	}
}

func TestAppendOfMany(t *testing.T) {
	for _, c := range []struct {
		n          int
		head, tail []byte
	}{
		{65535, []byte{4, 255, 255, 0, 0xD4, 0x81, 0x9A, 0x83}, []byte{0x0A, 0xA6, 0xE5, 0x26}},
		{65536, []byte{4, 0, 0, 1, 0xDD, 0x78, 0x21, 0xD9}, []byte{0xEB, 0xC9, 0x31, 0x1A}},
		{api.MaxFrame - 1, []byte{4, 255, 255, 15, 0x45, 0x9C, 0x25, 0x13}, []byte{0x8A, 0x9D, 0xB2, 0xA0}},
		{api.MaxFrame, []byte{4, 0, 0, 16, 0x2F, 0x58, 0x91, 0xB3}, []byte{0xEE, 0xE9, 0xB4, 0x6B}},
	} {
		b := appended(t, nil, api.Frame{Kind: 4, Body: make([]byte, c.n)})
		if len(b) != c.n+12 || !bytes.Equal(b[:8], c.head) || !bytes.Equal(b[8+c.n:], c.tail) {
			t.Errorf("Append of %d bytes: %d bytes, %v at first, %v at last", c.n, len(b), b[:8], b[len(b)-4:])
		}
	}
	f := longest()
	if b := appended(t, nil, f); !bytes.Equal(b, laid(f.Kind, f.Body)) {
		t.Errorf("Append of MaxFrame bytes is not as the chapter says")
	}
}

func TestAppendBehind(t *testing.T) {
	for _, b := range [][]byte{nil, {}, {0}, {255, 0}, laid(3, []byte("xyz")), mixed(5000, 1)} {
		want := bytes.Clone(b)
		for _, f := range frames() {
			if out := appended(t, b, f); !bytes.Equal(out, append(want[:len(want):len(want)], laid(f.Kind, f.Body)...)) {
				t.Errorf("Append of %d bytes behind %d is not as the chapter says", len(f.Body), len(b))
			}
			if !bytes.Equal(b, want) {
				t.Fatalf("Append changed the %d bytes handed in", len(b))
			}
		}
	}
}

func TestAppendOfTooMany(t *testing.T) {
	memory := make([]byte, 1<<24+1)
	for _, n := range []int{api.MaxFrame + 1, api.MaxFrame + 2, api.MaxFrame + 12, 2 * api.MaxFrame, 1<<24 - 1, 1 << 24, 1<<24 + 1} {
		for _, b := range [][]byte{nil, {}, {1, 2, 3}} {
			for _, kind := range []byte{0, 1, math.MaxUint8} {
				if out, e := frame.Append(b, api.Frame{Kind: kind, Body: memory[:n]}); len(out) != 0 || e != api.ErrLong {
					t.Errorf("Append of %d bytes: %d bytes, error %d", n, len(out), e)
				}
			}
		}
	}
}

// TestAppendAnswersNewMemory hands in pieces of one memory, with spare room that must be left alone.
func TestAppendAnswersNewMemory(t *testing.T) {
	memory := mixed(200, 3)
	want := bytes.Clone(memory)
	for _, at := range []int{0, 1, 50, 150} {
		for _, n := range []int{0, 1, 30} {
			f := api.Frame{Kind: 7, Body: memory[at : at+n]}
			out := appended(t, memory[:at], f)
			if !bytes.Equal(out, append(bytes.Clone(want[:at]), laid(7, want[at:at+n])...)) {
				t.Errorf("Append of %d bytes behind %d with spare room is not as the chapter says", n, at)
			}
			again := appended(t, memory[:at], f)
			fill(out[:cap(out)])
			if !bytes.Equal(memory, want) {
				t.Fatalf("Append of %d bytes behind %d shares memory with what was handed in", n, at)
			}
			if !bytes.Equal(again[:at], want[:at]) || !bytes.Equal(again[at:], laid(7, want[at:at+n])) {
				t.Fatalf("Append of %d bytes behind %d shares memory with an answer ahead of it", n, at)
			}
		}
	}
	if out := appended(t, memory[:50], api.Frame{Body: memory[50:60]}); !onlyZeros(out[len(out):cap(out)]) {
		t.Errorf("Append hands out spare room with something in it")
	}
}

// fill writes over all of b.
func fill(b []byte) {
	for i := range b {
		b[i] = ^b[i]
	}
}

// onlyZeros tells whether nothing is to be seen in b.
func onlyZeros(b []byte) bool {
	return len(bytes.Trim(b, "\x00")) == 0
}
