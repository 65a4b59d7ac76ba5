package frame_test

import (
	"bytes"
	"math"
	"math/bits"
	"slices"
	"testing"

	"berthmaster/api"
	"berthmaster/frame"
)

// torn fails the test unless the first n bytes of the frames' row tell just those that lie in them whole, and whether one is torn.
func torn(t *testing.T, b []byte, n int, l []api.Frame, ends []int) {
	t.Helper()
	whole, within := slices.BinarySearch(ends, n)
	want := api.ErrShort
	if within {
		whole++
	}
	if within || n == 0 {
		want = api.OK
	}
	scanned(t, "a first part", b[:n:n], l[:whole], ends[:whole], want)
}

func TestTorn(t *testing.T) {
	for seed := range 12 {
		var l []api.Frame
		var b []byte
		for i := range 8 {
			f := api.Frame{Kind: byte(seed*i + 1), Body: mixed(seed*i*i%61, uint64(seed))}
			l = append(l, f)
			b = appended(t, b, f)
		}
		_, ends := row(l)
		for n := range len(b) + 1 {
			torn(t, b, n, l, ends)
		}
	}
}

// TestTornLong tears frames as long as may be at some places.
func TestTornLong(t *testing.T) {
	l := []api.Frame{longest(), {Kind: 1}, longest()}
	b, ends := row(l)
	for _, n := range []int{1, 7, 8, 11, 12, api.MaxFrame, ends[0] - 1, ends[0], ends[0] + 11, ends[1], ends[1] + 8, ends[2] - 4, ends[2] - 1, ends[2]} {
		torn(t, b, n, l, ends)
	}
}

// turned answers b with the bits of the pattern turned, from the bit start on; those behind its end are dropped.
func turned(b []byte, start int, pattern uint32) []byte {
	out := bytes.Clone(b)
	for ; pattern != 0; pattern &= pattern - 1 {
		if bit := start + bits.TrailingZeros32(pattern); bit < 8*len(b) {
			out[bit/8] ^= 1 << (bit % 8)
		}
	}
	return out
}

// patterns answers bits that are turned, the first one always: alone, each pair, runs, all of the first nine, many others.
func patterns() []uint32 {
	l := []uint32{1, math.MaxUint32, 0xEDB88321, 0x80000001, 0x04C11DB7}
	for one := range 32 {
		l = append(l, 1<<one-1|1)
		for two := range one {
			l = append(l, 1|1<<one|1<<two)
		}
	}
	for x := range uint32(256) {
		l = append(l, 2*x|1)
	}
	for x := range uint32(300) {
		l = append(l, x*0x9E3779B9|1)
	}
	return l
}

// altered fails the test unless Read of b, with those bits turned, is ErrBad.
func altered(t *testing.T, b []byte, start int, pattern uint32, behind []byte) {
	t.Helper()
	other := append(turned(b, start, pattern), behind...)
	if f, n, e := frame.Read(other); !alike(f, api.Frame{}) || n != 0 || e != api.ErrBad {
		t.Fatalf("Read of %d bytes, %#x turned from bit %d on, %d bytes behind: %d, error %d", len(b), pattern, start, len(behind), n, e)
	}
}

func TestAltered(t *testing.T) {
	behind := [][]byte{nil, make([]byte, 300), bytes.Repeat([]byte{255}, 300), mixed(300, 4)}
	for _, f := range []api.Frame{{}, {Kind: 1}, {Kind: 255, Body: []byte{0}}, {Kind: 2, Body: []byte("ab")}, {Kind: 3, Body: make([]byte, 9)}, {Kind: 4, Body: mixed(20, 6)}} {
		b := appended(t, nil, f)
		for start := range 8 * len(b) {
			for i, pattern := range patterns() {
				altered(t, b, start, pattern, behind[(i+start)%len(behind)])
			}
		}
	}
}

// TestAlteredInABit turns each bit alone, with nothing and with the frame once more behind it.
func TestAlteredInABit(t *testing.T) {
	for _, n := range []int{0, 1, 2, 63, 64, 65, 255, 256, 257} {
		b := appended(t, nil, api.Frame{Kind: byte(n), Body: mixed(n, uint64(n))})
		for start := range 8 * len(b) {
			for _, behind := range [][]byte{nil, b, make([]byte, 1<<16)} {
				altered(t, b, start, 1, behind)
			}
		}
	}
}

// TestAlteredLength turns the length's bits in many ways, with enough bytes behind for each frame that could be meant.
func TestAlteredLength(t *testing.T) {
	b := append(appended(t, nil, api.Frame{Kind: 1, Body: mixed(300, 7)}), make([]byte, api.MaxFrame)...)
	head := bytes.Clone(b[:4])
	for x := uint64(1); x < 1<<24; x += 1 + x/10000 {
		for i, y := range lowest(x, 3) {
			b[1+i] = head[1+i] ^ y
		}
		if f, n, e := frame.Read(b); !alike(f, api.Frame{}) || n != 0 || e != api.ErrBad {
			t.Fatalf("Read with %#x turned in the length: %d, error %d", x, n, e)
		}
	}
}

func TestAlteredLong(t *testing.T) {
	b := appended(t, nil, longest())
	for _, at := range []int{0, 3, 5, 7, 8, 12, 4096, api.MaxFrame / 2, api.MaxFrame + 4, api.MaxFrame + 7, api.MaxFrame + 8, api.MaxFrame + 11} {
		for i, pattern := range []uint32{1, 0x80000001, math.MaxUint32, 0xEDB88321} {
			altered(t, b, 8*at+i, pattern, nil)
		}
	}
}

// TestCallsEndAlike makes the same calls twice of whatever bytes: they end without a panic, and hang on nothing but these.
func TestCallsEndAlike(t *testing.T) {
	good, _ := row(frames()[:9])
	for seed := range 3000 {
		b := mixed(seed%50, uint64(seed))
		if seed%3 == 0 {
			at := seed % len(good)
			b = joined(good[:at], b, good[at:])
		}
		one, n, e := frame.Scan(b)
		two, m, f := frame.Scan(bytes.Clone(b))
		if !slices.EqualFunc(one, two, alike) || n != m || e != f || !slices.Equal(frame.Ends(b), frame.Ends(bytes.Clone(b))) {
			t.Fatalf("calls of %v answered unlike things", b)
		}
		// What is told is just what is there: written anew it is that.
		var again []byte
		for _, x := range one {
			again = appended(t, again, x)
		}
		if !bytes.Equal(again, b[:n]) || (e == api.OK) != (n == len(b)) {
			t.Fatalf("Scan of %v: %d, error %d, tells other frames", b, n, e)
		}
	}
}
