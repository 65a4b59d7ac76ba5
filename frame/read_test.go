package frame_test

import (
	"bytes"
	"testing"

	"berthmaster/api"
	"berthmaster/frame"
)

// refused fails the test unless Read and Scan of b are just that error, and nothing else.
func refused(t *testing.T, what string, b []byte, want api.Errno) {
	t.Helper()
	if f, n, e := frame.Read(b); !alike(f, api.Frame{}) || n != 0 || e != want {
		t.Errorf("Read of %s: kind %d, %d bytes of a body, %d, error %d, not %d", what, f.Kind, len(f.Body), n, e, want)
	}
	if len(b) == 0 {
		return
	}
	if l, n, e := frame.Scan(b); len(l) != 0 || n != 0 || e != want {
		t.Errorf("Scan of %s: %d frames, %d, error %d, not %d", what, len(l), n, e, want)
	}
	if l := frame.Ends(b); len(l) != 0 {
		t.Errorf("Ends of %s: %v", what, l)
	}
}

// read fails the test unless Read of b is the frame f, of n bytes.
func read(t *testing.T, b []byte, f api.Frame, n int) {
	t.Helper()
	if got, m, e := frame.Read(b); !alike(got, f) || m != n || e != api.OK {
		t.Errorf("Read of a body of %d bytes: kind %d, %d bytes, %d, error %d", len(f.Body), got.Kind, len(got.Body), m, e)
	}
}

// joined answers the lists, one behind the other.
func joined(lists ...[]byte) []byte {
	return bytes.Join(lists, nil)
}

func TestRead(t *testing.T) {
	read(t, []byte{1, 0, 0, 0, 0x79, 0xB8, 0xF8, 0x99, 0x79, 0xB8, 0xF8, 0x99}, api.Frame{Kind: 1}, 12)
	read(t, []byte{2, 2, 0, 0, 0xF9, 0xC3, 0xC9, 0x88, 'a', 'b', 0x5A, 0x09, 0x90, 0x59}, api.Frame{Kind: 2, Body: []byte("ab")}, 14)
	for _, f := range append(frames(), longest()) {
		b := laid(f.Kind, f.Body)
		for _, behind := range [][]byte{nil, {0}, {255, 1, 2}, b[:11], laid(6, []byte("more"))} {
			read(t, joined(b, behind), f, len(f.Body)+12)
		}
	}
	for kind := range 256 {
		f := api.Frame{Kind: byte(kind), Body: []byte{byte(kind)}}
		read(t, laid(f.Kind, f.Body), f, 13)
	}
}

func TestReadOfTheExample(t *testing.T) {
	b := appended(t, nil, api.Frame{Kind: 1})
	read(t, b, api.Frame{Kind: 1}, 12)
	refused(t, "its first 11 bytes", b[:11], api.ErrShort)
	refused(t, "its first 7 bytes", b[:7], api.ErrShort)
	b[0] ^= 1
	refused(t, "its first byte turned", b, api.ErrBad)
	b[0] ^= 1
	b[11] ^= 128
	refused(t, "its last byte turned", b, api.ErrBad)
}

// TestReadOfFewBytes: fewer than a head are short, whatever they say.
func TestReadOfFewBytes(t *testing.T) {
	refused(t, "nil", nil, api.ErrShort)
	for n := range 8 {
		for _, b := range [][]byte{make([]byte, 8), bytes.Repeat([]byte{255}, 8), mixed(8, 9), laid(1, nil)} {
			refused(t, "less than a head", b[:n], api.ErrShort)
		}
	}
}

// TestReadOfABadHead: a head without its sum is bad, however few bytes stand behind it.
func TestReadOfABadHead(t *testing.T) {
	for _, f := range frames() {
		b := laid(f.Kind, f.Body)
		for at := range 8 {
			other := bytes.Clone(b)
			other[at]++
			refused(t, "a bad head", other, api.ErrBad)
			refused(t, "a bad head alone", other[:8], api.ErrBad)
			refused(t, "a bad head and less than the frame", other[:len(b)-1], api.ErrBad)
			refused(t, "a bad head and more", append(other, 1, 2, 3), api.ErrBad)
		}
	}
	refused(t, "zeros", make([]byte, 8), api.ErrBad)
	refused(t, "more zeros", make([]byte, 100), api.ErrBad)
	refused(t, "ones", bytes.Repeat([]byte{255}, 2<<20), api.ErrBad)
}

// TestReadOfALongHead: a length above MaxFrame is bad under its right sum too, with all of the frame's bytes or without.
func TestReadOfALongHead(t *testing.T) {
	for _, size := range []int{api.MaxFrame + 1, api.MaxFrame + 2, api.MaxFrame + 256, 2 * api.MaxFrame, 1<<24 - 1} {
		head, _ := headed(4, size)
		refused(t, "a long head", head, api.ErrBad)
		refused(t, "a long head and a little", append(head, 1, 2, 3, 4, 5), api.ErrBad)
		refused(t, "a long frame, short of a byte", laid(4, make([]byte, size))[:size+11], api.ErrBad)
		refused(t, "a long frame", laid(4, make([]byte, size)), api.ErrBad)
	}
	head, _ := headed(4, api.MaxFrame)
	refused(t, "the longest head", head, api.ErrShort)
}

// TestReadOfABadBody: the bytes must all be there ahead of their sum being looked at.
func TestReadOfABadBody(t *testing.T) {
	for _, f := range frames() {
		b := laid(f.Kind, f.Body)
		for _, at := range []int{8, 8 + len(f.Body)/2, len(b) - 5, len(b) - 4, len(b) - 1} {
			if at < 8 {
				continue
			}
			other := bytes.Clone(b)
			other[at] ^= 16
			refused(t, "a bad body", other, api.ErrBad)
			refused(t, "a bad body and more", append(other, b...), api.ErrBad)
			refused(t, "a bad body, short of a byte", other[:len(b)-1], api.ErrShort)
		}
	}
}

// TestReadOfOtherSums: the body's sum goes on from the head's, over the body alone, and both have their lowest byte first.
func TestReadOfOtherSums(t *testing.T) {
	for _, body := range [][]byte{nil, []byte("body"), mixed(300, 5)} {
		head, sum := headed(3, len(body))
		tail := laid(3, body)[8+len(body):]
		for _, other := range [][]byte{
			{0, 0, 0, 0},
			{255, 255, 255, 255},
			{tail[3], tail[2], tail[1], tail[0]},
			{tail[0], tail[1], tail[2], ^tail[3]},
			{^tail[0], ^tail[1], ^tail[2], ^tail[3]},
			lowest(uint64(^sum), 4),
			ownSum(body),
			ownSum(joined(head, body)),
		} {
			refused(t, "a body under another sum", joined(head, body, other), api.ErrBad)
		}
		for _, other := range [][]byte{
			{0, 0, 0, 0},
			{head[7], head[6], head[5], head[4]},
			{^head[4], ^head[5], ^head[6], ^head[7]},
			ownSum(head[:3]),
			ownSum(head[1:4]),
		} {
			refused(t, "a head under another sum", joined(head[:4], other, body, tail), api.ErrBad)
		}
	}
}

// TestReadLooksAtNothingBehind: the spare room is not read, though the rest of the frame stands there.
func TestReadLooksAtNothingBehind(t *testing.T) {
	for _, f := range []api.Frame{{Kind: 1}, {Kind: 2, Body: []byte("ab")}, {Kind: 3, Body: mixed(60, 2)}} {
		b := laid(f.Kind, f.Body)
		for n := range len(b) {
			refused(t, "a first part with the rest in spare room", b[:n], api.ErrShort)
		}
	}
}

func TestReadAnswersNewMemory(t *testing.T) {
	for _, f := range frames() {
		b := joined(laid(f.Kind, f.Body), laid(1, []byte("behind")))
		want := bytes.Clone(b)
		got, _, _ := frame.Read(b)
		again, _, _ := frame.Read(b)
		if !onlyZeros(got.Body[len(got.Body):cap(got.Body)]) {
			t.Errorf("Read of %d bytes hands out spare room with something in it", len(f.Body))
		}
		fill(got.Body[:cap(got.Body)])
		if !bytes.Equal(b, want) || !alike(again, f) {
			t.Errorf("Read of %d bytes shares memory", len(f.Body))
		}
		fill(b)
		if !alike(again, f) {
			t.Errorf("Read of %d bytes looks at what was handed in later", len(f.Body))
		}
	}
}
