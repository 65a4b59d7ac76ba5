package disk_test

import (
	"bytes"
	"fmt"
	"maps"
	"slices"
	"strings"
	"testing"

	"berthmaster/api"
	"berthmaster/disk"
)

// holder is what a disk can do, and what the model of one can do.
type holder interface {
	Make(name string) api.Errno
	Append(name string, b []byte) api.Errno
	Sync(name string) api.Errno
	Rename(from, to string) api.Errno
	Remove(name string) api.Errno
	Read(name string) ([]byte, api.Errno)
	Names() []string
	Synced(name string) (int, api.Errno)
	Left() int
	Fuse(n int) api.Errno
	Free() api.Errno
	Crash(keep []int) api.Errno
	Turn(name string, at int, bits byte) api.Errno
	On() bool
	Steps() int
}

// mark is a byte of a file, and whether it is synced.
type mark struct {
	b    byte
	firm bool
}

// model is a disk told in the chapter's words, byte by byte; its fuse is nil where it has none.
type model struct {
	room  int
	off   bool
	fuse  *int
	done  int
	files map[string][]mark
}

func modelled(room int) *model {
	return &model{room: room, files: map[string][]mark{}}
}

// may answers whether a name may be: 1 to 24 bytes from 33 to 126.
func may(name string) bool {
	other := strings.TrimFunc(name, func(r rune) bool { return r >= 33 && r <= 126 })
	return len(name) >= 1 && len(name) <= 24 && other == "" && !strings.ContainsAny(name, " \x7f\x80\xff")
}

func (m *model) first(names ...string) api.Errno {
	if m.off {
		return api.ErrOff
	}
	for _, name := range names {
		if !may(name) {
			return api.ErrArg
		}
	}
	return api.OK
}

// had answers first, and whether there is such a file.
func (m *model) had(name string) api.Errno {
	if e := m.first(name); e != api.OK {
		return e
	}
	if _, there := m.files[name]; !there {
		return api.ErrNone
	}
	return api.OK
}

// goes answers whether one step more is done.
func (m *model) goes() bool {
	if m.fuse != nil && *m.fuse == 0 {
		m.off = true
		return false
	}
	if m.fuse != nil {
		*m.fuse--
	}
	m.done++
	return true
}

func (m *model) Make(name string) api.Errno {
	if e := m.first(name); e != api.OK {
		return e
	}
	if _, there := m.files[name]; there {
		return api.ErrThere
	}
	if !m.goes() {
		return api.ErrOff
	}
	m.files[name] = nil
	return api.OK
}

func (m *model) Append(name string, b []byte) api.Errno {
	if e := m.had(name); e != api.OK {
		return e
	}
	if len(b) > m.Left() {
		return api.ErrFull
	}
	for i, x := range b {
		if i%64 == 0 && !m.goes() {
			return api.ErrOff
		}
		m.files[name] = append(m.files[name], mark{b: x})
	}
	return api.OK
}

func (m *model) Sync(name string) api.Errno {
	if e := m.had(name); e != api.OK {
		return e
	}
	if !m.goes() {
		return api.ErrOff
	}
	for i := range m.files[name] {
		m.files[name][i].firm = true
	}
	return api.OK
}

func (m *model) Rename(from, to string) api.Errno {
	if e := m.first(from, to); e != api.OK {
		return e
	}
	if e := m.had(from); e != api.OK {
		return e
	}
	if from == to {
		return api.OK
	}
	if !m.goes() {
		return api.ErrOff
	}
	m.files[to] = m.files[from]
	delete(m.files, from)
	return api.OK
}

func (m *model) Remove(name string) api.Errno {
	if e := m.had(name); e != api.OK {
		return e
	}
	if !m.goes() {
		return api.ErrOff
	}
	delete(m.files, name)
	return api.OK
}

func (m *model) Read(name string) ([]byte, api.Errno) {
	if e := m.had(name); e != api.OK {
		return nil, e
	}
	var b []byte
	for _, x := range m.files[name] {
		b = append(b, x.b)
	}
	return b, api.OK
}

func (m *model) Names() []string {
	if m.off {
		return nil
	}
	return slices.Sorted(maps.Keys(m.files))
}

func (m *model) Synced(name string) (int, api.Errno) {
	if e := m.had(name); e != api.OK {
		return 0, e
	}
	n := 0
	for _, x := range m.files[name] {
		if x.firm {
			n++
		}
	}
	return n, api.OK
}

func (m *model) Left() int {
	if m.off {
		return 0
	}
	left := m.room
	for _, l := range m.files {
		left -= len(l)
	}
	return left
}

func (m *model) Fuse(n int) api.Errno {
	if m.off {
		return api.ErrOff
	}
	if n < 0 {
		return api.ErrArg
	}
	m.fuse = &n
	return api.OK
}

func (m *model) Free() api.Errno {
	m.fuse = nil
	return api.OK
}

func (m *model) Crash(keep []int) api.Errno {
	for _, n := range keep {
		if n < 0 {
			return api.ErrArg
		}
	}
	for i, name := range slices.Sorted(maps.Keys(m.files)) {
		loose := 0
		var l []mark
		for _, x := range m.files[name] {
			if !x.firm {
				loose++
			}
			if x.firm || i < len(keep) && loose <= keep[i] {
				l = append(l, mark{x.b, true})
			}
		}
		m.files[name] = l
	}
	m.off, m.fuse = false, nil
	return api.OK
}

func (m *model) Turn(name string, at int, bits byte) api.Errno {
	if !may(name) {
		return api.ErrArg
	}
	for i := range m.files[name] {
		if i == at {
			m.files[name][i].b ^= bits
			return api.OK
		}
	}
	return api.ErrNone
}

func (m *model) On() bool   { return !m.off }
func (m *model) Steps() int { return m.done }

// call is one of a disk's calls with what is handed in.
type call struct {
	what        string
	name, other string
	n           int
	keep        []int
}

// made makes the call, and answers its Errno.
func made(d holder, c call) api.Errno {
	switch c.what {
	case "make":
		return d.Make(c.name)
	case "append":
		return d.Append(c.name, mixed(c.n, len(c.name)))
	case "sync":
		return d.Sync(c.name)
	case "rename":
		return d.Rename(c.name, c.other)
	case "remove":
		return d.Remove(c.name)
	case "fuse":
		return d.Fuse(c.n)
	case "free":
		return d.Free()
	case "crash":
		return d.Crash(c.keep)
	case "turn":
		return d.Turn(c.name, c.n, byte(c.n*7+len(c.name)))
	}
	return -1
}

// told answers all that a disk tells, of the names asked for too, as a text.
func told(d holder, asked ...string) string {
	var b strings.Builder
	fmt.Fprintln(&b, d.On(), d.Steps(), d.Left(), len(d.Names()), d.Names())
	for _, name := range slices.Concat(d.Names(), asked) {
		bytes, e := d.Read(name)
		n, f := d.Synced(name)
		fmt.Fprintf(&b, "%q %v %x %v %d\n", name, e, bytes, f, n)
	}
	return b.String()
}

// mixed answers n bytes that look like nothing.
func mixed(n, seed int) []byte {
	b := make([]byte, n)
	x := uint64(seed)*0x9E3779B97F4A7C15 + 1
	for i := range b {
		x = x*6364136223846793005 + 1442695040888963407
		b[i] = byte(x >> 33)
	}
	return b
}

// opened answers a disk of that room.
func opened(t *testing.T, room int) *disk.Disk {
	t.Helper()
	d, e := disk.New(room)
	if d == nil || e != api.OK {
		t.Fatalf("New(%d): error %d", room, e)
	}
	return d
}

// done fails the test unless the call is answered OK.
func done(t *testing.T, d holder, l ...call) {
	t.Helper()
	for _, c := range l {
		if e := made(d, c); e != api.OK {
			t.Fatalf("%v: error %d", c, e)
		}
	}
}

// refused fails the test unless the calls are answered that error, and nothing that is told has changed by them.
func refused(t *testing.T, d holder, want api.Errno, l ...call) {
	t.Helper()
	before := told(d, "a", "none")
	for _, c := range l {
		if e := made(d, c); e != want {
			t.Errorf("%v: error %d, not %d", c, e, want)
		}
	}
	if after := told(d, "a", "none"); after != before {
		t.Errorf("%v, refused with %d, changed\n%sto\n%s", l, want, before, after)
	}
}

// has fails the test unless a file has these bytes, so many of them synced.
func has(t *testing.T, d holder, name string, want []byte, synced int) {
	t.Helper()
	b, e := d.Read(name)
	n, f := d.Synced(name)
	if e != api.OK || f != api.OK || !bytes.Equal(b, want) || n != synced {
		t.Errorf("%q: %v, error %d, %d synced, error %d; not %v, %d synced", name, b, e, n, f, want, synced)
	}
}
