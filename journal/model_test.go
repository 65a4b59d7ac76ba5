package journal_test

import (
	"bytes"
	"encoding/binary"
	"fmt"
	"hash/crc32"
	"maps"
	"regexp"
	"slices"
	"strconv"
	"testing"

	"berthmaster/api"
	"berthmaster/disk"
	"berthmaster/journal"
)

// log is what a journal can do, and what the model of one can do.
type log interface {
	Append(b []byte) (uint64, api.Errno)
	Sync() api.Errno
	Read(n uint64) ([]byte, api.Errno)
	All() [][]byte
	First() uint64
	Next() uint64
	Drop(n uint64) api.Errno
	Restart(n uint64) api.Errno
}

// model is a journal told in the chapter's words: the numbers of its segments, and its records by number.
type model struct {
	d           *disk.Disk
	name        string
	ended       bool
	numbers     []uint64
	records     map[uint64][]byte
	first, next uint64
}

// framed answers a frame's bytes, in the words of chapter 3.
func framed(kind byte, body []byte) []byte {
	head := []byte{kind, byte(len(body)), byte(len(body) >> 8), byte(len(body) >> 16)}
	sum := crc32.ChecksumIEEE(head)
	out := binary.LittleEndian.AppendUint32(head, sum)
	out = append(out, body...)
	return binary.LittleEndian.AppendUint32(out, crc32.Update(sum, crc32.IEEETable, body))
}

// unframed answers the kind and the body of the frame at the beginning of b, if one can be read there.
func unframed(b []byte) (kind byte, body []byte, ok bool) {
	if len(b) < 12 {
		return 0, nil, false
	}
	n := int(b[1]) | int(b[2])<<8 | int(b[3])<<16
	if n > 1<<20 || len(b) < n+12 || !bytes.Equal(framed(b[0], b[8:8+n]), b[:n+12]) {
		return 0, nil, false
	}
	return b[0], b[8 : 8+n], true
}

// segment answers the name of a file.
func segment(name string, number uint64) string {
	return fmt.Sprintf("%s-%012d", name, number)
}

// modelled recovers a journal of that name, which may be, from a disk that is on.
func modelled(d *disk.Disk, name string) (*model, api.Errno) {
	m := &model{d: d, name: name, records: map[uint64][]byte{}, first: 1, next: 1}
	if slices.Contains(d.Names(), name+"-cut") {
		if e := d.Remove(name + "-cut"); e != api.OK {
			return nil, e
		}
	}
	var numbers []uint64
	for _, file := range d.Names() {
		if regexp.MustCompile("^" + name + "-[0-9]{12}$").MatchString(file) {
			number, _ := strconv.ParseUint(file[len(name)+1:], 10, 64)
			numbers = append(numbers, number)
		}
	}
	slices.Sort(numbers)
	if len(numbers) > 0 {
		m.first, m.next = numbers[0], numbers[0]
	}
	for len(numbers) > 0 && numbers[0] == m.next {
		number := numbers[0]
		numbers = numbers[1:]
		m.numbers = append(m.numbers, number)
		if cut, e := m.into(number); e != api.OK {
			return nil, e
		} else if cut {
			break
		}
	}
	for _, number := range numbers {
		if e := d.Remove(segment(name, number)); e != api.OK {
			return nil, e
		}
	}
	return m, api.OK
}

// into takes the records of a segment, and cuts it, where other bytes are behind them.
func (m *model) into(number uint64) (cut bool, e api.Errno) {
	b, e := m.d.Read(segment(m.name, number))
	if e != api.OK {
		return false, e
	}
	rest := b
	for kind, body, ok := unframed(rest); ok && kind == 1; kind, body, ok = unframed(rest) {
		m.records[m.next] = bytes.Clone(body)
		m.next++
		rest = rest[len(body)+12:]
	}
	if len(rest) == 0 {
		return false, api.OK
	}
	half := m.name + "-cut"
	if e := m.d.Make(half); e != api.OK {
		return true, e
	}
	if e := m.d.Append(half, b[:len(b)-len(rest)]); e != api.OK {
		return true, e
	}
	if e := m.d.Sync(half); e != api.OK {
		return true, e
	}
	return true, m.d.Rename(half, segment(m.name, number))
}

// noted answers the disk's error, which may be the model's end.
func (m *model) noted(e api.Errno) api.Errno {
	m.ended = m.ended || e == api.ErrOff
	return e
}

// powerless answers whether the power is off, which is the model's end.
func (m *model) powerless() bool {
	if !m.d.On() {
		m.ended = true
	}
	return m.ended
}

// full answers whether the record that comes next begins another segment.
func (m *model) full() bool {
	if len(m.numbers) == 0 {
		return true
	}
	size := 0
	for n := m.numbers[len(m.numbers)-1]; n < m.next; n++ {
		size += len(framed(1, m.records[n]))
	}
	return size >= 4096
}

func (m *model) Append(b []byte) (uint64, api.Errno) {
	if m.ended {
		return 0, api.ErrOff
	}
	if len(b) > 65536 {
		return 0, api.ErrLong
	}
	if m.full() {
		if len(m.numbers) > 0 {
			if e := m.noted(m.d.Sync(segment(m.name, slices.Max(m.numbers)))); e != api.OK {
				return 0, e
			}
		}
		if e := m.noted(m.d.Make(segment(m.name, m.next))); e != api.OK {
			return 0, e
		}
		m.numbers = append(m.numbers, m.next)
	}
	if e := m.noted(m.d.Append(segment(m.name, slices.Max(m.numbers)), framed(1, b))); e != api.OK {
		return 0, e
	}
	m.records[m.next] = bytes.Clone(b)
	m.next++
	return m.next - 1, api.OK
}

func (m *model) Sync() api.Errno {
	if m.powerless() {
		return api.ErrOff
	}
	if len(m.numbers) == 0 {
		return api.OK
	}
	return m.noted(m.d.Sync(segment(m.name, slices.Max(m.numbers))))
}

func (m *model) Read(n uint64) ([]byte, api.Errno) {
	if m.powerless() {
		return nil, api.ErrOff
	}
	b, there := m.records[n]
	if !there {
		return nil, api.ErrNone
	}
	return b, api.OK
}

func (m *model) All() [][]byte {
	var l [][]byte
	for _, n := range slices.Sorted(maps.Keys(m.records)) {
		l = append(l, m.records[n])
	}
	return l
}

func (m *model) First() uint64 { return m.first }

func (m *model) Next() uint64 { return m.next }

// removed takes a segment away, with its records, which go up to the number behind.
func (m *model) removed(number, behind uint64) api.Errno {
	if e := m.noted(m.d.Remove(segment(m.name, number))); e != api.OK {
		return e
	}
	m.numbers = slices.DeleteFunc(m.numbers, func(n uint64) bool { return n == number })
	maps.DeleteFunc(m.records, func(n uint64, _ []byte) bool { return n >= number && n < behind })
	return api.OK
}

func (m *model) Drop(n uint64) api.Errno {
	if m.powerless() {
		return api.ErrOff
	}
	if n > m.next {
		return api.ErrArg
	}
	numbers := slices.Clone(m.numbers)
	for i, number := range numbers {
		if i+1 == len(numbers) || numbers[i+1] > n {
			break
		}
		if e := m.removed(number, numbers[i+1]); e != api.OK {
			return e
		}
		m.first = numbers[i+1]
	}
	return api.OK
}

func (m *model) Restart(n uint64) api.Errno {
	if m.powerless() {
		return api.ErrOff
	}
	if n == 0 || n > 549755813888 {
		return api.ErrArg
	}
	for _, number := range slices.Backward(slices.Clone(m.numbers)) {
		if e := m.removed(number, m.next); e != api.OK {
			return e
		}
		m.next = number
	}
	m.first, m.next = n, n
	return api.OK
}

// told answers all that can be asked of a journal without a change, as a text.
func told(j log) string {
	first, next := j.First(), j.Next()
	out := fmt.Sprintf("from %d to %d\n", first, next)
	for _, b := range j.All() {
		out += fmt.Sprintf("%d bytes %08x\n", len(b), crc32.ChecksumIEEE(b))
	}
	for _, n := range []uint64{0, first - 1, first, first + 1, (first + next) / 2, next - 1, next, next + 1, 1<<64 - 1} {
		b, e := j.Read(n)
		out += fmt.Sprintf("%d: %d bytes %08x, error %d\n", n, len(b), crc32.ChecksumIEEE(b), e)
	}
	return out
}

// seen answers all that can be asked of a disk, as a text.
func seen(d *disk.Disk) string {
	out := fmt.Sprintf("on: %v, %d steps, %d left\n", d.On(), d.Steps(), d.Left())
	for _, name := range d.Names() {
		b, _ := d.Read(name)
		n, _ := d.Synced(name)
		out += fmt.Sprintf("%s: %d bytes, %d synced, %08x\n", name, len(b), n, crc32.ChecksumIEEE(b))
	}
	return out
}

// fresh answers a disk with so much room.
func fresh(t *testing.T, room int) *disk.Disk {
	t.Helper()
	d, e := disk.New(room)
	if e != api.OK {
		t.Fatalf("disk.New(%d): error %d", room, e)
	}
	return d
}

// opened answers the journal of that name.
func opened(t *testing.T, d *disk.Disk, name string) *journal.Journal {
	t.Helper()
	j, e := journal.Open(d, name)
	if e != api.OK || j == nil {
		t.Fatalf("Open of %q: error %d", name, e)
	}
	return j
}

// laid puts a file on the disk, and syncs it.
func laid(t *testing.T, d *disk.Disk, name string, parts ...[]byte) {
	t.Helper()
	if d.Make(name) != api.OK || d.Append(name, slices.Concat(parts...)) != api.OK || d.Sync(name) != api.OK {
		t.Fatalf("%q can't be laid", name)
	}
}

// mixed answers n bytes, others for each seed.
func mixed(n, seed int) []byte {
	b := make([]byte, n)
	x := uint32(seed)*2654435761 + 12345
	for i := range b {
		x = x*1664525 + 1013904223
		b[i] = byte(x >> 24)
	}
	return b
}

// appended appends records, which must get the numbers from that one on.
func appended(t *testing.T, j log, from uint64, l ...[]byte) {
	t.Helper()
	for i, b := range l {
		if n, e := j.Append(b); n != from+uint64(i) || e != api.OK {
			t.Fatalf("Append of %d bytes: %d, error %d, not %d", len(b), n, e, from+uint64(i))
		}
	}
}

// fine fails the test if one of what was answered is an error.
func fine(t *testing.T, l ...api.Errno) {
	t.Helper()
	for i, e := range l {
		if e != api.OK {
			t.Fatalf("call %d: error %d", i, e)
		}
	}
}

// has fails the test unless the journal has just these records, numbered from first on.
func has(t *testing.T, j log, first uint64, l ...[]byte) {
	t.Helper()
	next := first + uint64(len(l))
	if j.First() != first || j.Next() != next || !slices.EqualFunc(j.All(), l, bytes.Equal) {
		t.Errorf("from %d to %d: %d records, not from %d to %d", j.First(), j.Next(), len(j.All()), first, next)
	}
	for i, want := range l {
		if b, e := j.Read(first + uint64(i)); !bytes.Equal(b, want) || e != api.OK {
			t.Errorf("Read of %d: %d bytes, error %d, not %d bytes", first+uint64(i), len(b), e, len(want))
		}
	}
	for _, n := range []uint64{0, first - 1, next, next + 1, 1 << 63, 1<<64 - 1} {
		if n >= first && n < next {
			continue
		}
		if b, e := j.Read(n); len(b) != 0 || e != api.ErrNone {
			t.Errorf("Read of %d: %v, error %d", n, b, e)
		}
	}
}

// files fails the test unless the disk has just the files of these names.
func files(t *testing.T, d *disk.Disk, names ...string) {
	t.Helper()
	if l := d.Names(); !slices.Equal(l, names) {
		t.Errorf("files %q, not %q", l, names)
	}
}

// contains fails the test unless the file has just these bytes, so many of them synced.
func contains(t *testing.T, d *disk.Disk, name string, want []byte, synced int) {
	t.Helper()
	b, e := d.Read(name)
	n, _ := d.Synced(name)
	if !bytes.Equal(b, want) || n != synced || e != api.OK {
		t.Errorf("%s: %d bytes, %d of them synced, error %d; not %d, %d of them synced", name, len(b), n, e, len(want), synced)
	}
}

// dice rolls numbers that look like chance, the same from the same seed.
type dice uint64

func (d *dice) below(n int) int {
	*d = *d*6364136223846793005 + 1442695040888963407
	return int(uint64(*d)>>33) % n
}
