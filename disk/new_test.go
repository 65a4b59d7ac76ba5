package disk_test

import (
	"math"
	"strings"
	"testing"

	"berthmaster/api"
	"berthmaster/disk"
)

const greatestRoom = 1 << 30

func TestNew(t *testing.T) {
	for _, room := range []int{0, 1, 63, 64, 100, greatestRoom - 1, greatestRoom} {
		d := opened(t, room)
		if !d.On() || d.Steps() != 0 || d.Left() != room || len(d.Names()) != 0 {
			t.Errorf("New(%d) is not as said: %s", room, told(d))
		}
	}
	for _, room := range []int{-1, -64, math.MinInt, greatestRoom + 1, 2 * greatestRoom, 4 * greatestRoom, math.MaxInt} {
		if d, e := disk.New(room); d != nil || e != api.ErrArg {
			t.Errorf("New(%d): %v, error %d", room, d, e)
		}
	}
}

// TestNewHasNoFuse does more steps than a fuse that nobody set would.
func TestNewHasNoFuse(t *testing.T) {
	d := opened(t, greatestRoom)
	done(t, d, call{what: "make", name: "a"})
	for range 5000 {
		done(t, d, call{what: "sync", name: "a"})
	}
	if d.Steps() != 5001 {
		t.Errorf("%d steps", d.Steps())
	}
}

func TestDisksShareNothing(t *testing.T) {
	one, two := opened(t, 9), opened(t, 9)
	done(t, one, call{what: "make", name: "a"}, call{what: "append", name: "a", n: 4}, call{what: "fuse", n: 0})
	if two.Left() != 9 || len(two.Names()) != 0 || two.Steps() != 0 {
		t.Errorf("another disk changed: %s", told(two))
	}
	done(t, two, call{what: "make", name: "a"}, call{what: "sync", name: "a"})
}

// names answers names that may be, and those that may not.
func names() (good, bad []string) {
	good = []string{"a", "!", "~", strings.Repeat("a", api.MaxName-1), strings.Repeat("~", api.MaxName), strings.Repeat("!", api.MaxName), "..", "/", "a/b", "0", "\"", "'"}
	bad = []string{"", strings.Repeat("a", api.MaxName+1), strings.Repeat("a", 300), strings.Repeat("a", api.MaxName) + " ", strings.Repeat("a", 23) + " ", "é", "日", "\xff", "a\n", "\x00a"}
	for x := range 256 {
		name := string([]byte{byte(x)})
		if x >= 33 && x <= 126 {
			good = append(good, name, "ab"+name, name+strings.Repeat("b", 23))
		} else {
			bad = append(bad, name, "a"+name, name+"a", "a"+name+"a", strings.Repeat("b", 23)+name)
		}
	}
	return good, bad
}

func TestNames(t *testing.T) {
	good, bad := names()
	d := opened(t, 1000)
	done(t, d, call{what: "make", name: "there"})
	for _, name := range good {
		done(t, d, call{what: "make", name: name}, call{what: "append", name: name, n: 3}, call{what: "sync", name: name}, call{what: "turn", name: name, n: 1},
			call{what: "rename", name: name, other: "other"}, call{what: "rename", name: "other", other: name})
		if b, e := d.Read(name); len(b) != 3 || e != api.OK {
			t.Errorf("Read(%q): %v, error %d", name, b, e)
		}
		done(t, d, call{what: "remove", name: name})
		refused(t, d, api.ErrNone, onName(name)[1:]...)
	}
	for _, name := range bad {
		refused(t, d, api.ErrArg, onName(name)...)
		refused(t, d, api.ErrArg, call{what: "rename", name: "there", other: name}, call{what: "rename", name: "none", other: name}, call{what: "turn", name: name, n: -1})
		unread(t, d, name, api.ErrArg)
	}
}

// onName answers a call of each kind that takes a name; all but the first ask for a file that is there.
func onName(name string) []call {
	return []call{
		{what: "make", name: name},
		{what: "append", name: name, n: 5},
		{what: "append", name: name, n: 5000},
		{what: "append", name: name},
		{what: "sync", name: name},
		{what: "rename", name: name, other: "there"},
		{what: "rename", name: name, other: name},
		{what: "rename", name: name, other: "free"},
		{what: "remove", name: name},
		{what: "turn", name: name, n: 0},
	}
}

// unread fails the test unless Read and Synced refuse the name.
func unread(t *testing.T, d holder, name string, want api.Errno) {
	t.Helper()
	if b, e := d.Read(name); len(b) != 0 || e != want {
		t.Errorf("Read(%q): %v, error %d, not %d", name, b, e, want)
	}
	if n, e := d.Synced(name); n != 0 || e != want {
		t.Errorf("Synced(%q): %d, error %d, not %d", name, n, e, want)
	}
}

// nobodys answers disks that New didn't answer.
func nobodys(t *testing.T) []*disk.Disk {
	copied := *opened(t, 100)
	off := opened(t, 100)
	off.Fuse(0)
	off.Make("a")
	turned := *off
	return []*disk.Disk{nil, {}, new(disk.Disk), &copied, &turned}
}

func TestNobodysDisk(t *testing.T) {
	for i, d := range nobodys(t) {
		for _, name := range []string{"a", "", strings.Repeat("a", 25)} {
			refused(t, d, api.ErrNil, onName(name)...)
			unread(t, d, name, api.ErrNil)
		}
		refused(t, d, api.ErrNil, call{what: "rename", name: "a", other: ""}, call{what: "fuse"}, call{what: "fuse", n: 3}, call{what: "fuse", n: -1}, call{what: "free"},
			call{what: "crash"}, call{what: "crash", keep: []int{1}}, call{what: "crash", keep: []int{-1}}, call{what: "turn", name: "a", n: -1})
		if d.On() || d.Steps() != 0 || d.Left() != 0 || len(d.Names()) != 0 {
			t.Errorf("disk %d tells %s", i, told(d))
		}
	}
}

// TestOff makes every call of a disk that is off: of good names and bad ones, of files that are there and not.
func TestOff(t *testing.T) {
	d := opened(t, 100)
	done(t, d, call{what: "make", name: "a"}, call{what: "append", name: "a", n: 70}, call{what: "fuse", n: 0})
	if e := d.Sync("a"); e != api.ErrOff {
		t.Fatalf("Sync: error %d", e)
	}
	for _, name := range []string{"a", "none", "", " ", strings.Repeat("a", 25)} {
		l := onName(name)
		refused(t, d, api.ErrOff, l[:len(l)-1]...)
		refused(t, d, api.ErrOff, call{what: "rename", name: "a", other: name})
		unread(t, d, name, api.ErrOff)
	}
	refused(t, d, api.ErrOff, call{what: "fuse"}, call{what: "fuse", n: 9}, call{what: "fuse", n: -1}, call{what: "fuse", n: math.MinInt})
	refused(t, d, api.ErrArg, call{what: "crash", keep: []int{-1}}, call{what: "turn", name: "", n: 0}, call{what: "turn", name: "a ", n: 0})
	refused(t, d, api.ErrNone, call{what: "turn", name: "none", n: 0}, call{what: "turn", name: "a", n: 70}, call{what: "turn", name: "a", n: -1})
	if d.On() || d.Steps() != 3 || d.Left() != 0 || len(d.Names()) != 0 {
		t.Errorf("a disk that is off tells %s", told(d))
	}
	done(t, d, call{what: "crash", keep: []int{70}})
	has(t, d, "a", mixed(70, 1), 70)
	if !d.On() || d.Steps() != 3 || d.Left() != 30 {
		t.Errorf("a disk that is on again tells %s", told(d))
	}
}
