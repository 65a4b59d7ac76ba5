package net_test

import (
	"bytes"
	"math"
	"testing"

	"berthmaster/api"
	"berthmaster/net"
)

// TestExamples: the chapter's table.
func TestExamples(t *testing.T) {
	n := fresh(t)
	sent(t, n, 1, 0, 1, []byte("a"))
	sent(t, n, 2, 1, 0, []byte("b"))
	doubled(t, n, 1, 3)
	has(t, n, letter(1, 1, 0, 1, "a"), letter(2, 2, 1, 0, "b"), letter(3, 1, 0, 1, "a"))
	delivered(t, n, letter(3, 1, 0, 1, "a"))
	gone(t, n, 3)
	has(t, n, letter(1, 1, 0, 1, "a"), letter(2, 2, 1, 0, "b"))
	lost(t, n, 1)
	has(t, n, letter(2, 2, 1, 0, "b"))
	refused(t, n, api.ErrArg, call{what: "send", from: 0, to: 64, n: 1})
	refused(t, n, api.ErrLong, call{what: "send", from: 0, to: 1, n: 16385})
}

func TestNew(t *testing.T) {
	n := fresh(t)
	has(t, n)
	gone(t, n, 0, 1, 2)
	if n.Sent() != 0 {
		t.Errorf("%d was sent", n.Sent())
	}
}

func TestNetsShareNothing(t *testing.T) {
	one, two := fresh(t), fresh(t)
	sent(t, one, 1, 3, 4, []byte("a"))
	sent(t, one, 2, 3, 5, []byte("b"))
	has(t, two)
	if two.Sent() != 0 {
		t.Errorf("%d was sent", two.Sent())
	}
	sent(t, two, 1, 6, 4, []byte("c"))
	two.Clear(5)
	lost(t, two, 1)
	has(t, one, letter(1, 1, 3, 4, "a"), letter(2, 2, 3, 5, "b"))
}

// TestNodes sends from each node to each, and from and to those that may not be.
func TestNodes(t *testing.T) {
	n := fresh(t)
	number := uint64(0)
	for from := range 64 {
		for to := range 64 {
			number++
			sent(t, n, number, from, to, []byte{byte(from), byte(to)})
			delivered(t, n, api.Letter{Number: number, First: number, From: from, To: to, Body: []byte{byte(from), byte(to)}})
		}
	}
	sent(t, n, 4097, 0, 63, nil)
	sent(t, n, 4098, 63, 0, nil)
	has(t, n, letter(4097, 4097, 0, 63, ""), letter(4098, 4098, 63, 0, ""))
	for _, bad := range []int{-1, 64, -2, 65, 127, 128, 255, 256, -256, 1 << 32, 1<<32 + 1, -1 << 32, math.MinInt, math.MaxInt} {
		for _, other := range []int{0, 1, 63, -1, 64, bad} {
			refused(t, n, api.ErrArg, call{what: "send", from: bad, to: other}, call{what: "send", from: other, to: bad}, call{what: "send", from: bad, to: other, n: 16385}, call{what: "send", from: other, to: bad, n: 70000})
		}
	}
	sent(t, n, 4099, 63, 63, nil)
	sent(t, n, 4100, 0, 0, nil)
}

func TestBody(t *testing.T) {
	n := fresh(t)
	var want []api.Letter
	for i, size := range []int{0, 1, 2, 16383, 16384, 0, 100} {
		number := uint64(i) + 1
		sent(t, n, number, 7, 8, mixed(size, i))
		want = append(want, api.Letter{Number: number, First: number, From: 7, To: 8, Body: mixed(size, i)})
		refused(t, n, api.ErrLong, call{what: "send", from: 7, to: 8, n: 16385}, call{what: "send", from: 7, to: 8, n: 16386}, call{what: "send", from: 0, to: 63, n: 1 << 20})
		has(t, n, want...)
	}
	sent(t, n, 8, 7, 8, nil)
	want = append(want, letter(8, 8, 7, 8, ""))
	has(t, n, want...)
	for _, l := range want {
		delivered(t, n, l)
	}
	has(t, n)
}

// TestFull has as many letters in flight as may be; one that leaves, in whatever way, makes room for one more, sent or doubled.
func TestFull(t *testing.T) {
	for _, put := range []call{{what: "send", from: 1, to: 2, n: 1}, {what: "double", number: 1}} {
		for _, leaves := range []call{{what: "deliver", number: 7}, {what: "lose", number: 4096}, {what: "clear", to: 9}} {
			n := fresh(t)
			sent(t, n, 1, 1, 2, []byte("a"))
			sent(t, n, 2, 1, 9, []byte("b"))
			for number := uint64(3); number <= 4096; number++ {
				if a := made(n, put); a.number != number || a.e != api.OK {
					t.Fatalf("%s: %d, error %d, not %d", put.what, a.number, a.e, number)
				}
			}
			crowded(t, n)
			if a := made(n, leaves); a.e != api.OK || len(n.Flight()) != 4095 {
				t.Fatalf("%s: error %d, and %d are in flight", leaves.what, a.e, len(n.Flight()))
			}
			if a := made(n, put); a.number != 4097 || a.e != api.OK {
				t.Errorf("%s behind %s: %d, error %d", put.what, leaves.what, a.number, a.e)
			}
			crowded(t, n)
		}
	}
}

// crowded fails the test unless just as many letters as may be are in flight, and one more is refused.
func crowded(t *testing.T, n *net.Net) {
	t.Helper()
	l := n.Flight()
	if len(l) != 4096 {
		t.Fatalf("%d letters are in flight", len(l))
	}
	last := l[len(l)-1].Number
	refused(t, n, api.ErrFull, call{what: "send", from: 1, to: 2, n: 1}, call{what: "send"}, call{what: "send", from: 63, to: 63, n: 16384}, call{what: "double", number: l[0].Number}, call{what: "double", number: last})
	// What is asked ahead of the room.
	refused(t, n, api.ErrArg, call{what: "send", from: -1, to: 2, n: 1}, call{what: "send", from: 1, to: 64, n: 16385})
	refused(t, n, api.ErrLong, call{what: "send", from: 1, to: 2, n: 16385})
	gone(t, n, 0, n.Sent()+1)
}

// TestFullButOne has 4095 letters in flight: one more fits, sent or doubled.
func TestFullButOne(t *testing.T) {
	for _, kind := range []string{"send", "double"} {
		n := fresh(t)
		for number := uint64(1); number <= 4095; number++ {
			sent(t, n, number, 0, 1, nil)
		}
		if len(n.Flight()) != 4095 {
			t.Fatalf("%d letters are in flight", len(n.Flight()))
		}
		if a := made(n, call{what: kind, number: 4095}); a.number != 4096 || a.e != api.OK {
			t.Errorf("%s: %d, error %d", kind, a.number, a.e)
		}
		crowded(t, n)
	}
}

// TestWideAsItMayBe has as many letters in flight as may be, each as long as may be, and delivers them.
func TestWideAsItMayBe(t *testing.T) {
	n := fresh(t)
	b := mixed(16384, 5)
	for number := uint64(1); number <= 4096; number++ {
		b[0], b[1] = byte(number), byte(number>>8)
		sent(t, n, number, 0, 1, b)
	}
	if l := n.Flight(); len(l) != 4096 || len(l[4095].Body) != 16384 {
		t.Errorf("%d letters are in flight", len(l))
	}
	for number := uint64(4096); number >= 1; number-- {
		b[0], b[1] = byte(number), byte(number>>8)
		if l, e := n.Deliver(number); !bytes.Equal(l.Body, b) || l.Number != number || e != api.OK {
			t.Fatalf("Deliver(%d): %s, error %d", number, spelt(l), e)
		}
	}
	has(t, n)
}

// nobodys answers nets that New didn't answer.
func nobodys(t *testing.T) []*net.Net {
	none, some := *fresh(t), fresh(t)
	sent(t, some, 1, 0, 1, []byte("a"))
	sent(t, some, 2, 0, 1, []byte("b"))
	copied := *some
	return []*net.Net{nil, {}, new(net.Net), &none, &copied}
}

func TestNobodysNet(t *testing.T) {
	for _, n := range nobodys(t) {
		refused(t, n, api.ErrNil, call{what: "send"}, call{what: "send", from: 1, to: 2, n: 5}, call{what: "send", from: -1}, call{what: "send", to: 64}, call{what: "send", n: 16385}, call{what: "send", from: -1, to: 64, n: 16385})
		for _, number := range []uint64{0, 1, 2, 3, math.MaxUint64} {
			refused(t, n, api.ErrNil, call{what: "deliver", number: number}, call{what: "lose", number: number}, call{what: "double", number: number})
		}
		for _, node := range []int{-1, 0, 1, 63, 64} {
			n.Clear(node)
		}
		has(t, n)
		if n.Sent() != 0 {
			t.Errorf("%d was sent", n.Sent())
		}
	}
}

// TestCopiedNetLeavesTheOther makes calls of a copy: the net that New answered keeps what it has.
func TestCopiedNetLeavesTheOther(t *testing.T) {
	n := fresh(t)
	sent(t, n, 1, 0, 1, []byte("a"))
	copied := *n
	copied.Clear(1)
	copied.Lose(1)
	copied.Deliver(1)
	copied.Double(1)
	copied.Send(0, 1, nil)
	has(t, n, letter(1, 1, 0, 1, "a"))
	sent(t, n, 2, 0, 1, nil)
}
