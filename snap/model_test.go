package snap_test

import (
	"bytes"
	"encoding/binary"
	"fmt"
	"hash/crc32"
	"regexp"
	"slices"
	"strconv"
	"testing"

	"berthmaster/api"
	"berthmaster/disk"
	"berthmaster/journal"
	"berthmaster/snap"
)

// store is what a checkpoint can do, and what the model of one can do.
type store interface {
	Log(b []byte) (uint64, api.Errno)
	Sync() api.Errno
	Save(b []byte) api.Errno
	Snapshot() (b []byte, upto uint64, there bool)
	Since() [][]byte
	Next() uint64
}

// model is a checkpoint told in the chapter's words, over a journal: of its snapshot it keeps where it stands, and a copy.
type model struct {
	d     *disk.Disk
	name  string
	j     *journal.Journal
	ended bool
	file  string // the snapshot's; nothing, if there is none
	upto  uint64
	bytes []byte
}

// framed answers a frame's bytes, in the words of chapter 3.
func framed(kind byte, body []byte) []byte {
	head := []byte{kind, byte(len(body)), byte(len(body) >> 8), byte(len(body) >> 16)}
	sum := crc32.ChecksumIEEE(head)
	out := binary.LittleEndian.AppendUint32(head, sum)
	out = append(out, body...)
	return binary.LittleEndian.AppendUint32(out, crc32.Update(sum, crc32.IEEETable, body))
}

// shot answers the bytes of a snapshot's file.
func shot(upto uint64, b []byte) []byte {
	// A number's bytes are those of encoding/binary's varints.
	return framed(2, append(binary.AppendUvarint(nil, upto), b...))
}

// unshot answers the bytes of the snapshot of that number whose file has these bytes, if one has.
func unshot(b []byte, upto uint64) ([]byte, bool) {
	head := len(shot(upto, nil))
	if len(b) < head || !bytes.Equal(shot(upto, b[head-4:len(b)-4]), b) || len(b)-12 > 1<<20 {
		return nil, false
	}
	return bytes.Clone(b[head-4 : len(b)-4]), true
}

// named answers the name of a snapshot's file.
func named(name string, upto uint64) string {
	return fmt.Sprintf("%s-snap-%012d", name, upto)
}

// modelled recovers a checkpoint of that name, which may be, from a disk that is on.
func modelled(d *disk.Disk, name string) (*model, api.Errno) {
	m := &model{d: d, name: name, upto: 1}
	var others []string
	for _, file := range d.Names() {
		if !regexp.MustCompile("^" + name + "-snap-[0-9]{12}$").MatchString(file) {
			continue
		}
		others = append(others, file)
		number, _ := strconv.ParseUint(file[len(name)+6:], 10, 64)
		text, _ := d.Read(file)
		if b, whole := unshot(text, number); whole && (m.file == "" || number > m.upto) {
			m.file, m.upto, m.bytes = file, number, b
		}
	}
	if slices.Contains(d.Names(), name+"-snapnew") {
		others = append(others, name+"-snapnew")
	}
	slices.Sort(others)
	for _, file := range others {
		if file == m.file {
			continue
		}
		if e := d.Remove(file); e != api.OK {
			return nil, e
		}
	}
	var e api.Errno
	if m.j, e = journal.Open(d, name); e != api.OK {
		return nil, e
	}
	if m.j.First() > m.upto || m.j.Next() < m.upto {
		if e := m.j.Restart(m.upto); e != api.OK {
			return nil, e
		}
	}
	return m, api.OK
}

// noted answers an error, which may be the model's end.
func (m *model) noted(e api.Errno) api.Errno {
	m.ended = m.ended || e == api.ErrOff
	return e
}

func (m *model) Log(b []byte) (uint64, api.Errno) {
	if m.ended {
		return 0, api.ErrOff
	}
	n, e := m.j.Append(b)
	return n, m.noted(e)
}

func (m *model) Sync() api.Errno {
	if m.ended {
		return api.ErrOff
	}
	return m.noted(m.j.Sync())
}

func (m *model) Save(b []byte) api.Errno {
	if m.ended || !m.d.On() {
		return m.noted(api.ErrOff)
	}
	if len(b) > 1048560 {
		return api.ErrLong
	}
	upto := m.j.Next()
	if upto > 999999999999 {
		return api.ErrArg
	}
	old, file, half := m.file, named(m.name, upto), m.name+"-snapnew"
	steps := []func() api.Errno{
		m.j.Sync,
		func() api.Errno {
			if !slices.Contains(m.d.Names(), half) {
				return api.OK
			}
			return m.d.Remove(half)
		},
		func() api.Errno { return m.d.Make(half) },
		func() api.Errno {
			e := m.d.Append(half, shot(upto, b))
			if e == api.ErrFull && m.d.Remove(half) != api.OK {
				return api.ErrOff
			}
			return e
		},
		func() api.Errno { return m.d.Sync(half) },
		func() api.Errno {
			e := m.d.Rename(half, file)
			if e == api.OK {
				m.file, m.upto, m.bytes = file, upto, bytes.Clone(b)
			}
			return e
		},
		func() api.Errno {
			if old == "" || old == file {
				return api.OK
			}
			return m.d.Remove(old)
		},
		func() api.Errno { return m.j.Drop(upto) },
	}
	for _, step := range steps {
		if e := m.noted(step()); e != api.OK {
			return e
		}
	}
	return api.OK
}

func (m *model) Snapshot() ([]byte, uint64, bool) {
	return m.bytes, m.upto, m.file != ""
}

func (m *model) Since() [][]byte {
	var l [][]byte
	for i, b := range m.j.All() {
		if m.j.First()+uint64(i) >= m.upto {
			l = append(l, b)
		}
	}
	return l
}

func (m *model) Next() uint64 { return m.j.Next() }

// told answers all that can be asked of a checkpoint without a change, as a text.
func told(s store) string {
	b, upto, there := s.Snapshot()
	out := fmt.Sprintf("a snapshot: %v, up to %d, %d bytes %08x; next %d\n", there, upto, len(b), crc32.ChecksumIEEE(b), s.Next())
	for _, b := range s.Since() {
		out += fmt.Sprintf("%d bytes %08x\n", len(b), crc32.ChecksumIEEE(b))
	}
	return out
}

// seen answers all that can be asked of a disk, as a text.
func seen(d *disk.Disk) string {
	out := fmt.Sprintf("on: %v, %d steps, %d left\n", d.On(), d.Steps(), d.Left())
	for _, name := range d.Names() {
		b, _ := d.Read(name)
		n, _ := d.Synced(name)
		out += fmt.Sprintf("%s: %d bytes, %d synced, %08x\n", name, len(b), n, crc32.ChecksumIEEE(b))
	}
	return out
}

// fresh answers a disk with so much room.
func fresh(t *testing.T, room int) *disk.Disk {
	t.Helper()
	d, e := disk.New(room)
	if e != api.OK {
		t.Fatalf("disk.New(%d): error %d", room, e)
	}
	return d
}

// opened answers the checkpoint of that name.
func opened(t *testing.T, d *disk.Disk, name string) *snap.Store {
	t.Helper()
	s, e := snap.Open(d, name)
	if e != api.OK || s == nil {
		t.Fatalf("Open of %q: error %d", name, e)
	}
	return s
}

// laid puts a file on the disk, and syncs it.
func laid(t *testing.T, d *disk.Disk, name string, parts ...[]byte) {
	t.Helper()
	if d.Make(name) != api.OK || d.Append(name, slices.Concat(parts...)) != api.OK || d.Sync(name) != api.OK {
		t.Fatalf("%q can't be laid", name)
	}
}

// mixed answers n bytes, others for each seed.
func mixed(n, seed int) []byte {
	b := make([]byte, n)
	x := uint32(seed)*2654435761 + 12345
	for i := range b {
		x = x*1664525 + 1013904223
		b[i] = byte(x >> 24)
	}
	return b
}

// texts answers the bytes of each text.
func texts(l ...string) [][]byte {
	var out [][]byte
	for _, s := range l {
		out = append(out, []byte(s))
	}
	return out
}

// logged logs records, which must get the numbers from that one on.
func logged(t *testing.T, s store, from uint64, l ...[]byte) {
	t.Helper()
	for i, b := range l {
		if n, e := s.Log(b); n != from+uint64(i) || e != api.OK {
			t.Fatalf("Log of %d bytes: %d, error %d, not %d", len(b), n, e, from+uint64(i))
		}
	}
}

// fine fails the test if one of what was answered is an error.
func fine(t *testing.T, l ...api.Errno) {
	t.Helper()
	for i, e := range l {
		if e != api.OK {
			t.Fatalf("call %d: error %d", i, e)
		}
	}
}

// has fails the test unless the checkpoint has that snapshot (nil: none), and just these records behind it.
func has(t *testing.T, s store, b []byte, upto uint64, l ...[]byte) {
	t.Helper()
	got, n, there := s.Snapshot()
	if there != (b != nil) || n != upto || !bytes.Equal(got, b) || !there && got != nil {
		t.Errorf("a snapshot: %v, up to %d, %d bytes; not %v, %d, %d", there, n, len(got), b != nil, upto, len(b))
	}
	if next := upto + uint64(len(l)); s.Next() != next || !slices.EqualFunc(s.Since(), l, bytes.Equal) {
		t.Errorf("%d records up to %d; not %d, up to %d", len(s.Since()), s.Next(), len(l), next)
	}
}

// files fails the test unless the disk has just the files of these names.
func files(t *testing.T, d *disk.Disk, names ...string) {
	t.Helper()
	if l := d.Names(); !slices.Equal(l, names) {
		t.Errorf("files %q, not %q", l, names)
	}
}

// contains fails the test unless the file has just these bytes, so many of them synced.
func contains(t *testing.T, d *disk.Disk, name string, want []byte, synced int) {
	t.Helper()
	b, e := d.Read(name)
	n, _ := d.Synced(name)
	if !bytes.Equal(b, want) || n != synced || e != api.OK {
		t.Errorf("%s: %d bytes, %d of them synced, error %d; not %d, %d of them synced", name, len(b), n, e, len(want), synced)
	}
}

// gone answers a disk that is off.
func gone(t *testing.T, d *disk.Disk) *disk.Disk {
	t.Helper()
	d.Fuse(0)
	if d.Make("off") != api.ErrOff || d.On() {
		t.Fatal("the disk is on")
	}
	return d
}

// dice rolls numbers that look like chance, the same from the same seed.
type dice uint64

func (d *dice) below(n int) int {
	*d = *d*6364136223846793005 + 1442695040888963407
	return int(uint64(*d)>>33) % n
}
