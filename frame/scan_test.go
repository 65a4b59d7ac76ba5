package frame_test

import (
	"bytes"
	"slices"
	"testing"

	"berthmaster/api"
	"berthmaster/frame"
)

// row answers the bytes of the frames, one behind the other, and the places behind each.
func row(l []api.Frame) ([]byte, []int) {
	var b []byte
	var ends []int
	for _, f := range l {
		b = append(b, laid(f.Kind, f.Body)...)
		ends = append(ends, len(b))
	}
	return b, ends
}

// scanned fails the test unless Scan of b is those frames, up to the last one's end, and that error, and Ends those places.
func scanned(t *testing.T, what string, b []byte, want []api.Frame, ends []int, err api.Errno) {
	t.Helper()
	last := 0
	if len(ends) > 0 {
		last = ends[len(ends)-1]
	}
	l, n, e := frame.Scan(b)
	if !slices.EqualFunc(l, want, alike) || n != last || e != err {
		t.Errorf("Scan of %s: %d frames, %d, error %d, not %d frames, %d, error %d", what, len(l), n, e, len(want), last, err)
	}
	if got := frame.Ends(b); !slices.Equal(got, ends) {
		t.Errorf("Ends of %s: %v, not %v", what, got, ends)
	}
}

func TestScan(t *testing.T) {
	scanned(t, "nil", nil, nil, nil, api.OK)
	scanned(t, "no bytes", []byte{}, nil, nil, api.OK)
	all := frames()
	for n := range len(all) + 1 {
		b, ends := row(all[:n])
		scanned(t, "some frames", b, all[:n], ends, api.OK)
	}
	for _, f := range append(frames(), longest()) {
		l := []api.Frame{f, {Kind: 1}, f}
		b, ends := row(l)
		scanned(t, "a frame twice", b, l, ends, api.OK)
	}
	many := make([]api.Frame, 3000)
	for i := range many {
		many[i] = api.Frame{Kind: byte(i), Body: mixed(i%5, uint64(i))}
	}
	b, ends := row(many)
	scanned(t, "many frames", b, many, ends, api.OK)
}

func TestScanOfTheExample(t *testing.T) {
	two := appended(t, appended(t, nil, api.Frame{Kind: 1}), api.Frame{Kind: 2, Body: []byte("ab")})
	want := []api.Frame{{Kind: 1}, {Kind: 2, Body: []byte("ab")}}
	scanned(t, "two frames", two, want, []int{12, 26}, api.OK)
	scanned(t, "two frames and three bytes", append(two, 1, 2, 3), want, []int{12, 26}, api.ErrShort)
}

// TestScanOfMoreBehind: what stands behind the last frame tells the error.
func TestScanOfMoreBehind(t *testing.T) {
	long, _ := headed(1, api.MaxFrame+1)
	torn := laid(5, []byte("torn"))
	altered := bytes.Clone(torn)
	altered[9] ^= 4
	for n := range 6 {
		l := frames()[:n]
		b, ends := row(l)
		for _, c := range []struct {
			more []byte
			err  api.Errno
		}{
			{[]byte{0}, api.ErrShort},
			{make([]byte, 7), api.ErrShort},
			{make([]byte, 8), api.ErrBad},
			{bytes.Repeat([]byte{255}, 7), api.ErrShort},
			{bytes.Repeat([]byte{255}, 8), api.ErrBad},
			{torn[:8], api.ErrShort},
			{torn[:15], api.ErrShort},
			{long, api.ErrBad},
			{altered[:15], api.ErrShort},
			{altered, api.ErrBad},
		} {
			scanned(t, "frames and more", joined(b, c.more), l, ends, c.err)
		}
	}
}

// TestScanStopsAtABadFrame: good frames behind it are not told.
func TestScanStopsAtABadFrame(t *testing.T) {
	l := frames()
	b, ends := row(l)
	start := 0
	for i, end := range ends {
		for _, at := range []int{start, start + 2, start + 7, end - 1} {
			other := bytes.Clone(b)
			other[at] ^= 1
			scanned(t, "frames, one of them bad", other, l[:i], ends[:i], api.ErrBad)
		}
		start = end
	}
}

func TestScanAnswersNewMemory(t *testing.T) {
	l := frames()
	b, ends := row(l)
	want := bytes.Clone(b)
	got, _, _ := frame.Scan(b)
	again, _, _ := frame.Scan(b)
	for i, f := range got {
		if !alike(f, l[i]) {
			t.Fatalf("writing into a frame of an answer changed another one")
		}
		if !onlyZeros(f.Body[len(f.Body):cap(f.Body)]) {
			t.Errorf("Scan hands out spare room with something in it")
		}
		fill(f.Body[:cap(f.Body)])
	}
	got = append(got, api.Frame{Kind: 99})
	if !bytes.Equal(b, want) || !slices.EqualFunc(again, l, alike) {
		t.Errorf("Scan shares memory")
	}
	one, two := frame.Ends(b), frame.Ends(b)
	clear(one[:cap(one)])
	if !slices.Equal(two, ends) || !bytes.Equal(b, want) {
		t.Errorf("Ends shares memory")
	}
	fill(b)
	if !slices.EqualFunc(again, l, alike) {
		t.Errorf("Scan looks at what was handed in later")
	}
}

// TestScanLooksAtNothingBehind: frames in the spare room are none.
func TestScanLooksAtNothingBehind(t *testing.T) {
	l := frames()[:8]
	b, ends := row(l)
	for i, end := range ends {
		scanned(t, "frames with more in spare room", b[:end], l[:i+1], ends[:i+1], api.OK)
		if i > 0 {
			scanned(t, "frames, the last one partly in spare room", b[:end-1], l[:i], ends[:i], api.ErrShort)
		}
	}
}
