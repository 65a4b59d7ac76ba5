package journal_test

import (
	"fmt"
	"slices"
	"testing"

	"berthmaster/api"
	"berthmaster/disk"
	"berthmaster/journal"
)

// layout is what a disk has at first, in the order in which it is laid.
type layout []struct {
	name  string
	parts [][]byte
}

// of answers a frame of a record.
func of(text string) []byte { return framed(1, []byte(text)) }

// layouts answers journals in many states, each named log.
func layouts() map[string]layout {
	a, b, c, d := of("a"), of("bb"), of(""), of("dddd")
	long := framed(1, mixed(65537, 1)) // more than Append takes, but a record all the same
	l := map[string]layout{
		"none":             {},
		"empty":            {{"log-000000000001", nil}},
		"empty, far":       {{"log-000000000044", nil}},
		"whole":            {{"log-000000000001", [][]byte{a, b, c}}},
		"two":              {{"log-000000000001", [][]byte{a, b, c}}, {"log-000000000004", [][]byte{d}}},
		"laid backwards":   {{"log-000000000104", [][]byte{d}}, {"log-000000000102", [][]byte{c, c}}, {"log-000000000099", [][]byte{a, b, c}}},
		"last empty":       {{"log-000000000007", [][]byte{a, b}}, {"log-000000000009", nil}},
		"empty between":    {{"log-000000000007", [][]byte{a, b}}, {"log-000000000009", nil}, {"log-000000000010", [][]byte{d}}, {"log-000000000011", [][]byte{a}}},
		"empty first":      {{"log-000000000007", nil}, {"log-000000000008", [][]byte{a}}},
		"missing":          {{"log-000000000001", [][]byte{a}}, {"log-000000000003", [][]byte{b}}, {"log-000000000004", [][]byte{c}}},
		"first missing":    {{"log-000000000002", [][]byte{a}}, {"log-000000000003", [][]byte{b}}},
		"overlapping":      {{"log-000000000001", [][]byte{a, b, c}}, {"log-000000000003", [][]byte{c, d}}, {"log-000000000005", [][]byte{a}}},
		"other kind":       {{"log-000000000001", [][]byte{a, framed(2, []byte("x")), b}}, {"log-000000000002", [][]byte{c}}, {"log-000000000003", [][]byte{d}}},
		"other kind first": {{"log-000000000005", [][]byte{framed(0, nil), a}}, {"log-000000000006", [][]byte{b}}},
		"other kind last":  {{"log-000000000001", [][]byte{a, b, framed(255, []byte("x"))}}, {"log-000000000003", [][]byte{c}}, {"log-000000000004", [][]byte{c}}},
		"garbage":          {{"log-000000000001", [][]byte{mixed(300, 1)}}, {"log-000000000002", [][]byte{a}}},
		"garbage behind":   {{"log-000000000001", [][]byte{a, b, mixed(300, 1)}}, {"log-000000000003", [][]byte{a}}},
		"torn":             {{"log-000000000001", [][]byte{a, b, d[:15]}}},
		"torn between":     {{"log-000000000001", [][]byte{a, b}}, {"log-000000000003", [][]byte{c, d[:7]}}, {"log-000000000004", [][]byte{a}}, {"log-000000000005", [][]byte{a}}},
		"torn, nothing":    {{"log-000000000012", [][]byte{d[:15]}}, {"log-000000000013", [][]byte{a}}},
		"torn, long":       {{"log-000000000001", [][]byte{a, framed(1, mixed(200, 3)), framed(1, mixed(5000, 4)), d[:1]}}},
		"half a cut":       {{"log-cut", [][]byte{a}}, {"log-000000000001", [][]byte{a, b, d[:9]}}, {"log-000000000003", [][]byte{a}}},
		"a cut alone":      {{"log-cut", [][]byte{a, b}}},
		"long record":      {{"log-000000000001", [][]byte{long}}, {"log-000000000002", [][]byte{b}}},
		"long body":        {{"log-000000000001", [][]byte{framed(1, mixed(1<<20, 2))}}},
		"nought":           {{"log-000000000000", [][]byte{a, b}}, {"log-000000000002", [][]byte{c}}},
		"nought, empty":    {{"log-000000000000", nil}},
		"greatest":         {{"log-999999999998", [][]byte{a}}, {"log-999999999999", [][]byte{b}}},
		"far behind":       {{"log-000000000001", [][]byte{a}}, {"log-999999999999", [][]byte{b}}, {"log-100000000000", [][]byte{b}}},
	}
	for n := range len(d) {
		l[fmt.Sprintf("torn at %d", n)] = layout{{"log-000000000001", [][]byte{a, b, d[:n]}}, {"log-000000000003", [][]byte{c}}}
		turned := slices.Clone(d)
		turned[n] ^= 16
		l[fmt.Sprintf("turned at %d", n)] = layout{{"log-000000000001", [][]byte{a, turned, c}}, {"log-000000000002", [][]byte{c}}, {"log-000000000004", [][]byte{c}}}
	}
	return l
}

// disked answers a disk with those files, and so much room more.
func disked(t *testing.T, l layout, more int) *disk.Disk {
	t.Helper()
	room := more
	for _, f := range l {
		room += len(slices.Concat(f.parts...))
	}
	d := fresh(t, room)
	for _, f := range l {
		laid(t, d, f.name, f.parts...)
	}
	return d
}

// TestRebuild opens what was laid, as the model does, with each fuse: the disk is the same then, and so is the journal.
func TestRebuild(t *testing.T) {
	for name, l := range layouts() {
		for fuse := range 200 {
			one, two := disked(t, l, 1<<21), disked(t, l, 1<<21)
			fine(t, one.Fuse(fuse), two.Fuse(fuse))
			j, e := journal.Open(one, "log")
			m, want := modelled(two, "log")
			if e != want || (j == nil) != (m == nil) || seen(one) != seen(two) {
				t.Fatalf("%s, a fuse of %d: error %d, not %d\n%s%s", name, fuse, e, want, seen(one), seen(two))
			}
			if e != api.OK {
				fine(t, one.Crash([]int{9, 9}), two.Crash([]int{9, 9}))
				j, m = opened(t, one, "log"), nil
				if m, e = modelled(two, "log"); e != api.OK {
					t.Fatal(e)
				}
			} else {
				fine(t, one.Free(), two.Free())
			}
			rebuilt(t, name, j, m, one, two)
			if want == api.OK {
				break
			}
		}
	}
}

// rebuilt fails the test unless the journal is as the model, now and behind some calls more.
func rebuilt(t *testing.T, name string, j *journal.Journal, m *model, one, two *disk.Disk) {
	t.Helper()
	if told(j) != told(m) || seen(one) != seen(two) {
		t.Fatalf("%s: %s%snot\n%s%s", name, told(j), seen(one), told(m), seen(two))
	}
	// Opened again, it is the same, without a step.
	if again := opened(t, one, "log"); told(again) != told(j) || seen(one) != seen(two) {
		t.Fatalf("%s, opened again: %snot\n%s%s", name, told(again), told(j), seen(one))
	}
	appended(t, j, m.Next(), []byte("more"))
	m.Append([]byte("more"))
	fine(t, j.Sync(), m.Sync())
	if told(j) != told(m) || seen(one) != seen(two) {
		t.Fatalf("%s, with a record more: %s%snot\n%s%s", name, told(j), seen(one), told(m), seen(two))
	}
	fine(t, one.Crash(nil))
	if again := opened(t, one, "log"); told(again) != told(j) {
		t.Fatalf("%s, opened behind a crash: %snot\n%s", name, told(again), told(j))
	}
}

// TestRebuilt tells of some layouts which records are there then, and which files.
func TestRebuilt(t *testing.T) {
	all := layouts()
	for _, c := range []struct {
		name    string
		first   uint64
		records []string
		files   []string
	}{
		{"none", 1, nil, nil},
		{"empty", 1, nil, []string{"log-000000000001"}},
		{"empty, far", 44, nil, []string{"log-000000000044"}},
		{"two", 1, []string{"a", "bb", "", "dddd"}, []string{"log-000000000001", "log-000000000004"}},
		{"laid backwards", 99, []string{"a", "bb", "", "", "", "dddd"}, []string{"log-000000000099", "log-000000000102", "log-000000000104"}},
		{"last empty", 7, []string{"a", "bb"}, []string{"log-000000000007", "log-000000000009"}},
		{"empty between", 7, []string{"a", "bb"}, []string{"log-000000000007", "log-000000000009"}},
		{"empty first", 7, nil, []string{"log-000000000007"}},
		{"missing", 1, []string{"a"}, []string{"log-000000000001"}},
		{"first missing", 2, []string{"a", "bb"}, []string{"log-000000000002", "log-000000000003"}},
		{"overlapping", 1, []string{"a", "bb", ""}, []string{"log-000000000001"}},
		{"other kind", 1, []string{"a"}, []string{"log-000000000001"}},
		{"other kind first", 5, nil, []string{"log-000000000005"}},
		{"other kind last", 1, []string{"a", "bb"}, []string{"log-000000000001"}},
		{"garbage", 1, nil, []string{"log-000000000001"}},
		{"torn", 1, []string{"a", "bb"}, []string{"log-000000000001"}},
		{"torn between", 1, []string{"a", "bb", ""}, []string{"log-000000000001", "log-000000000003"}},
		{"torn, nothing", 12, nil, []string{"log-000000000012"}},
		{"half a cut", 1, []string{"a", "bb"}, []string{"log-000000000001"}},
		{"a cut alone", 1, nil, nil},
		{"nought", 0, []string{"a", "bb", ""}, []string{"log-000000000000", "log-000000000002"}},
		{"greatest", 999999999998, []string{"a", "bb"}, []string{"log-999999999998", "log-999999999999"}},
	} {
		l, there := all[c.name]
		if !there {
			t.Fatalf("no layout is named %q", c.name)
		}
		d := disked(t, l, 1000)
		j := opened(t, d, "log")
		var want [][]byte
		for _, text := range c.records {
			want = append(want, []byte(text))
		}
		has(t, j, c.first, want...)
		files(t, d, c.files...)
	}
}

// TestCutSteps tells each step of a cut and of the removals behind it.
func TestCutSteps(t *testing.T) {
	a, b := of("a"), framed(1, mixed(100, 1))
	whole := slices.Concat(a, b)
	torn := slices.Concat(whole, a[:12])
	for fuse, want := range [][]string{
		{"log-000000000001", "log-000000000009", "log-000000000010"},
		{"log-000000000001", "log-000000000009", "log-000000000010", "log-cut"},
		{"log-000000000001", "log-000000000009", "log-000000000010", "log-cut"},
		{"log-000000000001", "log-000000000009", "log-000000000010", "log-cut"},
		{"log-000000000001", "log-000000000009", "log-000000000010", "log-cut"},
		{"log-000000000001", "log-000000000009", "log-000000000010"},
		{"log-000000000001", "log-000000000010"},
		{"log-000000000001"},
	} {
		d := fresh(t, 10000)
		laid(t, d, "log-000000000001", torn)
		laid(t, d, "log-000000000009", a)
		laid(t, d, "log-000000000010", a)
		before := d.Steps()
		fine(t, d.Fuse(fuse))
		e := api.ErrOff
		if fuse == 7 {
			e = api.OK
		}
		if j, got := journal.Open(d, "log"); got != e || (j == nil) != (e != api.OK) || d.Steps() != before+fuse {
			t.Errorf("a fuse of %d: %v, error %d, %d steps", fuse, j, got, d.Steps()-before)
		}
		fine(t, d.Crash(nil))
		files(t, d, want...)
		kept := torn
		if fuse >= 5 {
			kept = whole
		}
		contains(t, d, "log-000000000001", kept, len(kept))
		if fuse == 4 { // synced, not renamed
			contains(t, d, "log-cut", whole, len(whole))
		}
	}
}

// TestCutFull cuts where there is no room for the records twice: the file -cut that was made stays.
func TestCutFull(t *testing.T) {
	l := layout{{"log-000000000001", [][]byte{of("a"), of("bb"), {1, 2}}}, {"log-000000000008", [][]byte{of("c")}}}
	for more := range 40 {
		d := disked(t, l, more)
		j, e := journal.Open(d, "log")
		if more >= 27 {
			if e != api.OK {
				t.Errorf("%d bytes of room more: error %d", more, e)
			}
			continue
		}
		if j != nil || e != api.ErrFull {
			t.Errorf("%d bytes of room more: %v, error %d", more, j, e)
		}
		files(t, d, "log-000000000001", "log-000000000008", "log-cut")
		contains(t, d, "log-cut", nil, 0)
		contains(t, d, "log-000000000001", slices.Concat(l[0].parts...), 29)
		steps := d.Steps()
		if j, e := journal.Open(d, "log"); j != nil || e != api.ErrFull || d.Steps() != steps+2 {
			t.Errorf("opened again: %v, error %d", j, e)
		}
		// Once there is room, it is cut.
		fine(t, d.Remove("log-000000000008"), d.Remove("log-cut"))
		if more >= 27-13 {
			has(t, opened(t, d, "log"), 1, []byte("a"), []byte("bb"))
		}
	}
	// Without records it needs none.
	d := disked(t, layout{{"log-000000000001", [][]byte{{1, 2}}}}, 0)
	has(t, opened(t, d, "log"), 1)
	contains(t, d, "log-000000000001", nil, 0)
}
