package snap_test

import (
	"fmt"
	"slices"
	"testing"

	"berthmaster/api"
	"berthmaster/disk"
	"berthmaster/snap"
)

// layout is what a disk has at first, in the order in which it is laid.
type layout []struct {
	name  string
	parts [][]byte
}

// of answers a frame of a record.
func of(text string) []byte { return framed(1, []byte(text)) }

// one answers the one part of a file that is a snapshot's of that number.
func one(upto uint64, text string) [][]byte { return [][]byte{shot(upto, []byte(text))} }

// layouts answers checkpoints in many states, each named m.
func layouts() map[string]layout {
	a, b, c := of("a"), of("bb"), of("")
	records := [][]byte{a, b, c}
	l := map[string]layout{
		"none":                   {},
		"a journal alone":        {{"m-000000000001", records}},
		"a snapshot alone":       {{"m-snap-000000000005", one(5, "S")}},
		"an empty snapshot":      {{"m-snap-000000000001", one(1, "")}, {"m-000000000001", records}},
		"of the first":           {{"m-snap-000000000001", one(1, "S")}, {"m-000000000001", records}},
		"within":                 {{"m-snap-000000000003", one(3, "S")}, {"m-000000000001", records}},
		"at the end":             {{"m-snap-000000000004", one(4, "S")}, {"m-000000000001", records}},
		"at the begin":           {{"m-snap-000000000004", one(4, "S")}, {"m-000000000004", records}},
		"next below":             {{"m-snap-000000000005", one(5, "S")}, {"m-000000000001", records}},
		"next far below":         {{"m-snap-000000900000", one(900000, "S")}, {"m-000000000001", [][]byte{framed(1, mixed(5000, 1))}}, {"m-000000000002", records}},
		"first above":            {{"m-snap-000000000003", one(3, "S")}, {"m-000000000004", records}, {"m-000000000007", records}},
		"first above, of none":   {{"m-000000000002", records}, {"m-000000000005", nil}},
		"next below, of none":    {{"m-000000000000", nil}},
		"nought, of none":        {{"m-000000000000", records}},
		"an empty journal":       {{"m-snap-000000000003", one(3, "S")}, {"m-000000000003", nil}},
		"an empty one below":     {{"m-snap-000000000003", one(3, "S")}, {"m-000000000002", nil}},
		"an empty one above":     {{"m-snap-000000000003", one(3, "S")}, {"m-000000000004", nil}},
		"two":                    {{"m-snap-000000000002", one(2, "S")}, {"m-snap-000000000003", one(3, "T")}, {"m-000000000001", records}},
		"many, laid backwards":   {{"m-snap-000000000104", one(104, "V")}, {"m-snap-000000000101", one(101, "U")}, {"m-snap-000000000099", one(99, "T")}, {"m-snap-000000000003", one(3, "S")}, {"m-000000000101", records}},
		"the highest cut":        {{"m-snap-000000000002", one(2, "S")}, {"m-snap-000000000003", [][]byte{shot(3, []byte("T"))[:13]}}, {"m-000000000001", records}},
		"the highest empty":      {{"m-snap-000000000002", one(2, "S")}, {"m-snap-000000000003", nil}, {"m-000000000001", records}},
		"all cut":                {{"m-snap-000000000002", [][]byte{shot(2, nil)[:12]}}, {"m-snap-000000000003", [][]byte{shot(3, nil)[:8]}}, {"m-000000000001", records}},
		"none is whole":          {{"m-snap-000000000002", nil}, {"m-snap-000000000004", [][]byte{mixed(100, 1)}}, {"m-snapnew", one(4, "S")}, {"m-000000000003", records}},
		"another kind":           {{"m-snap-000000000002", one(2, "S")}, {"m-snap-000000000003", [][]byte{framed(1, []byte("\x03T"))}}, {"m-snap-000000000004", [][]byte{framed(3, []byte("\x04T"))}}, {"m-000000000001", records}},
		"a lower number within":  {{"m-snap-000000000002", one(2, "S")}, {"m-snap-000000000003", one(2, "T")}, {"m-000000000001", records}},
		"a higher number within": {{"m-snap-000000000002", one(2, "S")}, {"m-snap-000000000003", one(4, "T")}, {"m-000000000001", records}},
		"a needless digit":       {{"m-snap-000000000002", one(2, "S")}, {"m-snap-000000000003", [][]byte{framed(2, []byte("\x83\x00T"))}}, {"m-000000000001", records}},
		"no number within":       {{"m-snap-000000000002", one(2, "S")}, {"m-snap-000000000003", [][]byte{framed(2, nil)}}, {"m-000000000001", records}},
		"half a number within":   {{"m-snap-000000000002", one(2, "S")}, {"m-snap-000000000003", [][]byte{framed(2, []byte("\x83"))}}, {"m-000000000001", records}},
		"no number, nought":      {{"m-snap-000000000000", [][]byte{framed(2, nil)}}, {"m-000000000001", records}},
		"a frame more":           {{"m-snap-000000000002", one(2, "S")}, {"m-snap-000000000003", [][]byte{shot(3, []byte("T")), shot(3, []byte("T"))}}, {"m-000000000001", records}},
		"a byte more":            {{"m-snap-000000000002", one(2, "S")}, {"m-snap-000000000003", [][]byte{shot(3, []byte("T")), {0}}}, {"m-000000000001", records}},
		"a frame ahead":          {{"m-snap-000000000002", one(2, "S")}, {"m-snap-000000000003", [][]byte{a, shot(3, []byte("T"))}}, {"m-000000000001", records}},
		"half of a new one":      {{"m-snap-000000000002", one(2, "S")}, {"m-snapnew", [][]byte{shot(4, []byte("T"))[:9]}}, {"m-000000000001", records}},
		"a whole new one":        {{"m-snap-000000000002", one(2, "S")}, {"m-snapnew", one(4, "T")}, {"m-000000000001", records}},
		"a new one alone":        {{"m-snapnew", one(2, "T")}, {"m-000000000001", records}},
		"an empty new one":       {{"m-snapnew", nil}},
		"all that goes":          {{"m-snapnew", one(9, "T")}, {"m-snap-000000000001", one(1, "R")}, {"m-snap-000000000007", nil}, {"m-snap-000000000003", one(3, "S")}, {"m-cut", [][]byte{a}}, {"m-000000000001", [][]byte{a, a, a, b[:5]}}, {"m-000000000004", records}},
		"a torn journal":         {{"m-snap-000000000003", one(3, "S")}, {"m-000000000001", [][]byte{a, b, c[:9]}}, {"m-000000000004", records}},
		"torn below":             {{"m-snap-000000000003", one(3, "S")}, {"m-000000000001", [][]byte{a, b[:9]}}, {"m-000000000003", records}},
		"nought":                 {{"m-snap-000000000000", one(0, "S")}, {"m-000000000000", records}},
		"greatest":               {{"m-snap-999999999999", one(999999999999, "S")}, {"m-999999999999", records}},
		"the greatest restart":   {{"m-snap-549755813888", one(1<<39, "S")}},
		"a great number":         {{"m-snap-100000000000", one(100000000000, "S")}, {"m-099999999999", records}},
		"longer than a Save":     {{"m-snap-000000000002", [][]byte{shot(2, mixed(1<<20-1, 1))}}, {"m-000000000001", records}},
		"longer than a frame":    {{"m-snap-000000000002", [][]byte{shot(2, mixed(1<<20, 1))}}, {"m-000000000001", records}},
	}
	whole := shot(300, []byte("thrice"))
	for n := range whole {
		l[fmt.Sprintf("cut at %d", n)] = layout{{"m-snap-000000000002", one(2, "S")}, {"m-snap-000000000300", [][]byte{whole[:n]}}, {"m-000000000001", records}}
		turned := slices.Clone(whole)
		turned[n] ^= 4
		l[fmt.Sprintf("turned at %d", n)] = layout{{"m-snap-000000000002", one(2, "S")}, {"m-snap-000000000300", [][]byte{turned}}, {"m-000000000001", records}}
	}
	return l
}

// disked answers a disk with those files, and so much room more.
func disked(t *testing.T, l layout, more int) *disk.Disk {
	t.Helper()
	room := more
	for _, f := range l {
		room += len(slices.Concat(f.parts...))
	}
	d := fresh(t, room)
	for _, f := range l {
		laid(t, d, f.name, f.parts...)
	}
	return d
}

// TestRebuild opens what was laid, as the model does, with each fuse: the disk is the same then, and so is the checkpoint.
func TestRebuild(t *testing.T) {
	t.Parallel()
	for name, l := range layouts() {
		for fuse := range 200 {
			d, other := disked(t, l, 20000), disked(t, l, 20000)
			fine(t, d.Fuse(fuse), other.Fuse(fuse))
			s, e := snap.Open(d, "m")
			m, want := modelled(other, "m")
			if e != want || (s == nil) != (m == nil) || seen(d) != seen(other) {
				t.Fatalf("%s, a fuse of %d: error %d, not %d\n%s%s", name, fuse, e, want, seen(d), seen(other))
			}
			if e != api.OK {
				fine(t, d.Crash([]int{9, 9}), other.Crash([]int{9, 9}))
				s = opened(t, d, "m")
				if m, e = modelled(other, "m"); e != api.OK {
					t.Fatal(e)
				}
			} else {
				fine(t, d.Free(), other.Free())
			}
			rebuilt(t, name, s, m)
			if want == api.OK {
				break
			}
		}
	}
}

// rebuilt fails the test unless the checkpoint is as the model, now and behind some calls more.
func rebuilt(t *testing.T, name string, s *snap.Store, m *model) {
	t.Helper()
	if told(s) != told(m) {
		t.Fatalf("%s: %snot\n%s", name, told(s), told(m))
	}
	n, e := s.Log([]byte("more"))
	number, want := m.Log([]byte("more"))
	if n != number || e != want || s.Sync() != m.Sync() || told(s) != told(m) {
		t.Fatalf("%s, with a record more: %d, error %d, %snot %d, error %d\n%s", name, n, e, told(s), number, want, told(m))
	}
	if e, want := s.Save([]byte("later")), m.Save([]byte("later")); e != want || told(s) != told(m) {
		t.Fatalf("%s, saved: error %d, %snot %d\n%s", name, e, told(s), want, told(m))
	}
}

// TestRebuilt tells of some layouts what is there then, and which files.
func TestRebuilt(t *testing.T) {
	all := layouts()
	for _, c := range []struct {
		name    string
		text    string // of the snapshot; "-": there is none
		upto    uint64
		records []string
		files   []string
	}{
		{"none", "-", 1, nil, nil},
		{"a journal alone", "-", 1, []string{"a", "bb", ""}, []string{"m-000000000001"}},
		{"a snapshot alone", "S", 5, nil, []string{"m-snap-000000000005"}},
		{"an empty snapshot", "", 1, []string{"a", "bb", ""}, []string{"m-000000000001", "m-snap-000000000001"}},
		{"of the first", "S", 1, []string{"a", "bb", ""}, []string{"m-000000000001", "m-snap-000000000001"}},
		{"within", "S", 3, []string{""}, []string{"m-000000000001", "m-snap-000000000003"}},
		{"at the end", "S", 4, nil, []string{"m-000000000001", "m-snap-000000000004"}},
		{"at the begin", "S", 4, []string{"a", "bb", ""}, []string{"m-000000000004", "m-snap-000000000004"}},
		{"next below", "S", 5, nil, []string{"m-snap-000000000005"}},
		{"next far below", "S", 900000, nil, []string{"m-snap-000000900000"}},
		{"first above", "S", 3, nil, []string{"m-snap-000000000003"}},
		{"first above, of none", "-", 1, nil, nil},
		{"next below, of none", "-", 1, nil, nil},
		{"nought, of none", "-", 1, []string{"bb", ""}, []string{"m-000000000000"}},
		{"an empty journal", "S", 3, nil, []string{"m-000000000003", "m-snap-000000000003"}},
		{"an empty one below", "S", 3, nil, []string{"m-snap-000000000003"}},
		{"an empty one above", "S", 3, nil, []string{"m-snap-000000000003"}},
		{"two", "T", 3, []string{""}, []string{"m-000000000001", "m-snap-000000000003"}},
		{"many, laid backwards", "V", 104, nil, []string{"m-000000000101", "m-snap-000000000104"}},
		{"the highest cut", "S", 2, []string{"bb", ""}, []string{"m-000000000001", "m-snap-000000000002"}},
		{"the highest empty", "S", 2, []string{"bb", ""}, []string{"m-000000000001", "m-snap-000000000002"}},
		{"all cut", "-", 1, []string{"a", "bb", ""}, []string{"m-000000000001"}},
		{"none is whole", "-", 1, nil, nil},
		{"another kind", "S", 2, []string{"bb", ""}, []string{"m-000000000001", "m-snap-000000000002"}},
		{"a lower number within", "S", 2, []string{"bb", ""}, []string{"m-000000000001", "m-snap-000000000002"}},
		{"a higher number within", "S", 2, []string{"bb", ""}, []string{"m-000000000001", "m-snap-000000000002"}},
		{"a needless digit", "S", 2, []string{"bb", ""}, []string{"m-000000000001", "m-snap-000000000002"}},
		{"no number within", "S", 2, []string{"bb", ""}, []string{"m-000000000001", "m-snap-000000000002"}},
		{"half a number within", "S", 2, []string{"bb", ""}, []string{"m-000000000001", "m-snap-000000000002"}},
		{"no number, nought", "-", 1, []string{"a", "bb", ""}, []string{"m-000000000001"}},
		{"a frame more", "S", 2, []string{"bb", ""}, []string{"m-000000000001", "m-snap-000000000002"}},
		{"a byte more", "S", 2, []string{"bb", ""}, []string{"m-000000000001", "m-snap-000000000002"}},
		{"a frame ahead", "S", 2, []string{"bb", ""}, []string{"m-000000000001", "m-snap-000000000002"}},
		{"half of a new one", "S", 2, []string{"bb", ""}, []string{"m-000000000001", "m-snap-000000000002"}},
		{"a whole new one", "S", 2, []string{"bb", ""}, []string{"m-000000000001", "m-snap-000000000002"}},
		{"a new one alone", "-", 1, []string{"a", "bb", ""}, []string{"m-000000000001"}},
		{"an empty new one", "-", 1, nil, nil},
		{"all that goes", "S", 3, []string{"a"}, []string{"m-000000000001", "m-snap-000000000003"}},
		{"a torn journal", "S", 3, nil, []string{"m-000000000001", "m-snap-000000000003"}},
		{"torn below", "S", 3, nil, []string{"m-snap-000000000003"}},
		{"nought", "S", 0, []string{"a", "bb", ""}, []string{"m-000000000000", "m-snap-000000000000"}},
		{"greatest", "S", 999999999999, []string{"a", "bb", ""}, []string{"m-999999999999", "m-snap-999999999999"}},
		{"the greatest restart", "S", 1 << 39, nil, []string{"m-snap-549755813888"}},
	} {
		l, there := all[c.name]
		if !there {
			t.Fatalf("no layout is named %q", c.name)
		}
		d := disked(t, l, 1000)
		s := opened(t, d, "m")
		b := []byte(c.text)
		if c.text == "-" {
			b = nil
		}
		has(t, s, b, c.upto, texts(c.records...)...)
		files(t, d, c.files...)
		if t.Failed() {
			t.Fatalf("%s", c.name)
		}
		// What comes next goes on there, and is there again.
		logged(t, s, c.upto+uint64(len(c.records)), []byte("on"))
		has(t, opened(t, d, "m"), b, c.upto, texts(append(c.records, "on")...)...)
	}
}

// TestRebuildSteps tells each step of a recovery: other snapshots' files and -snapnew go, by rising name, then the journal is opened, and restarted.
func TestRebuildSteps(t *testing.T) {
	all := []string{"m-000000000001", "m-000000000007", "m-cut", "m-snap-000000000001", "m-snap-000000000008", "m-snap-000000000009", "m-snap-000000000012", "m-snapnew"}
	for fuse, goes := range []string{"", "m-snap-000000000001", "m-snap-000000000008", "m-snap-000000000012", "m-snapnew", "m-cut", "m-000000000007", "m-000000000001"} {
		all = slices.DeleteFunc(all, func(name string) bool { return name == goes })
		d := fresh(t, 10000)
		laid(t, d, "m-000000000001", of("a"))
		laid(t, d, "m-000000000007", of("b"))
		laid(t, d, "m-cut", of("c"))
		laid(t, d, "m-snap-000000000001", shot(1, nil))
		laid(t, d, "m-snap-000000000008", shot(8, nil))
		laid(t, d, "m-snap-000000000009", shot(9, nil))
		laid(t, d, "m-snap-000000000012", shot(11, nil))
		laid(t, d, "m-snapnew", shot(12, nil))
		before := d.Steps()
		fine(t, d.Fuse(fuse))
		want := api.ErrOff
		if fuse == 7 {
			want = api.OK
		}
		if s, e := snap.Open(d, "m"); e != want || (s == nil) != (e != api.OK) || d.Steps() != before+fuse {
			t.Errorf("a fuse of %d: %v, error %d, %d steps", fuse, s, e, d.Steps()-before)
		}
		fine(t, d.Crash(nil))
		files(t, d, all...)
		has(t, opened(t, d, "m"), []byte{}, 9)
	}
}

// TestRebuildFull has no room for the journal's cut: the disk's error is passed on.
func TestRebuildFull(t *testing.T) {
	l := layout{{"m-snap-000000000002", one(2, "S")}, {"m-000000000001", [][]byte{of("a"), of("bb"), {1, 2}}}}
	for more := range 40 {
		d := disked(t, l, more)
		s, e := snap.Open(d, "m")
		if more >= 27 && e != api.OK || more < 27 && (s != nil || e != api.ErrFull) {
			t.Errorf("%d bytes of room more: %v, error %d", more, s, e)
		}
	}
	// What is removed ahead of it makes room.
	d := disked(t, append(layout{{"m-snapnew", [][]byte{mixed(27, 1)}}}, l...), 0)
	has(t, opened(t, d, "m"), []byte("S"), 2, []byte("bb"))
}

// TestRebuildRefused has a snapshot of a number that no journal is restarted with: that is the journal's error.
func TestRebuildRefused(t *testing.T) {
	for _, upto := range []uint64{0, 1<<39 + 1, 999999999999} {
		d := disked(t, layout{{named("m", upto), one(upto, "S")}, {"m-000000000001", [][]byte{of("a")}}}, 1000)
		before := seen(d)
		if s, e := snap.Open(d, "m"); s != nil || e != api.ErrArg || seen(d) != before {
			t.Errorf("a snapshot up to %d: %v, error %d\n%snot\n%s", upto, s, e, seen(d), before)
		}
	}
}
