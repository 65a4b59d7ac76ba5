package net_test

import (
	"math"
	"testing"

	"berthmaster/api"
)

// wrong answers numbers that no letter of a net with less than a thousand of them has.
func wrong() []uint64 {
	return []uint64{0, 1000, 1 << 31, 1 << 32, 1<<32 + 1, 1<<32 + 2, 1 << 62, 1 << 63, 1<<63 + 1, math.MaxUint64}
}

func TestDeliver(t *testing.T) {
	n := fresh(t)
	gone(t, n, 1)
	sent(t, n, 1, 5, 6, []byte("one"))
	sent(t, n, 2, 6, 5, nil)
	sent(t, n, 3, 7, 7, []byte("three"))
	gone(t, n, wrong()...)
	gone(t, n, 4)
	delivered(t, n, letter(2, 2, 6, 5, ""))
	has(t, n, letter(1, 1, 5, 6, "one"), letter(3, 3, 7, 7, "three"))
	gone(t, n, 2)
	delivered(t, n, letter(3, 3, 7, 7, "three"))
	delivered(t, n, letter(1, 1, 5, 6, "one"))
	has(t, n)
	gone(t, n, 0, 1, 2, 3, 4)
	sent(t, n, 4, 1, 1, []byte("four"))
	has(t, n, letter(4, 4, 1, 1, "four"))
	gone(t, n, 1, 2, 3)
}

func TestLose(t *testing.T) {
	n := fresh(t)
	gone(t, n, 1)
	sent(t, n, 1, 5, 6, []byte("one"))
	sent(t, n, 2, 6, 5, nil)
	sent(t, n, 3, 7, 7, []byte("three"))
	gone(t, n, wrong()...)
	lost(t, n, 1)
	has(t, n, letter(2, 2, 6, 5, ""), letter(3, 3, 7, 7, "three"))
	gone(t, n, 1)
	lost(t, n, 3)
	lost(t, n, 2)
	has(t, n)
	gone(t, n, 0, 1, 2, 3, 4)
	if n.Sent() != 3 {
		t.Errorf("%d was sent", n.Sent())
	}
	sent(t, n, 4, 1, 1, []byte("four"))
	has(t, n, letter(4, 4, 1, 1, "four"))
}

func TestDouble(t *testing.T) {
	n := fresh(t)
	gone(t, n, 1)
	sent(t, n, 1, 5, 6, []byte("one"))
	sent(t, n, 2, 6, 63, mixed(16384, 2))
	sent(t, n, 3, 0, 0, nil)
	two := api.Letter{Number: 2, First: 2, From: 6, To: 63, Body: mixed(16384, 2)}
	gone(t, n, wrong()...)
	doubled(t, n, 2, 4)
	doubled(t, n, 3, 5)
	four := two
	four.Number = 4
	has(t, n, letter(1, 1, 5, 6, "one"), two, letter(3, 3, 0, 0, ""), four, letter(5, 3, 0, 0, ""))
	gone(t, n, 6)
	lost(t, n, 2)
	delivered(t, n, four)
	delivered(t, n, letter(5, 3, 0, 0, ""))
	has(t, n, letter(1, 1, 5, 6, "one"), letter(3, 3, 0, 0, ""))
}

// TestDoubleTwice doubles a letter twice, and its doubles, with the first one in flight or gone.
func TestDoubleTwice(t *testing.T) {
	for _, away := range []string{"", "deliver", "lose"} {
		n := fresh(t)
		sent(t, n, 1, 1, 1, []byte("other"))
		sent(t, n, 2, 3, 4, []byte("a"))
		doubled(t, n, 2, 3)
		doubled(t, n, 2, 4)
		first := []api.Letter{letter(1, 1, 1, 1, "other"), letter(2, 2, 3, 4, "a")}
		if away != "" {
			if a := made(n, call{what: away, number: 2}); a.e != api.OK {
				t.Errorf("%s: error %d", away, a.e)
			}
			gone(t, n, 2)
			first = first[:1]
		}
		doubled(t, n, 4, 5)
		doubled(t, n, 5, 6)
		doubled(t, n, 3, 7)
		has(t, n, append(first, letter(3, 2, 3, 4, "a"), letter(4, 2, 3, 4, "a"), letter(5, 2, 3, 4, "a"), letter(6, 2, 3, 4, "a"), letter(7, 2, 3, 4, "a"))...)
		lost(t, n, 5)
		gone(t, n, 5)
		delivered(t, n, letter(4, 2, 3, 4, "a"))
		doubled(t, n, 6, 8)
		delivered(t, n, letter(8, 2, 3, 4, "a"))
		delivered(t, n, letter(6, 2, 3, 4, "a"))
		delivered(t, n, letter(3, 2, 3, 4, "a"))
		doubled(t, n, 1, 9)
		n.Clear(4)
		has(t, n, letter(1, 1, 1, 1, "other"), letter(9, 1, 1, 1, "other"))
		gone(t, n, 2, 3, 4, 5, 6, 7, 8)
	}
}

func TestClear(t *testing.T) {
	n := fresh(t)
	n.Clear(0)
	n.Clear(-1)
	has(t, n)
	sent(t, n, 1, 4, 5, []byte("a"))
	sent(t, n, 2, 5, 4, []byte("b"))
	sent(t, n, 3, 5, 5, []byte("c"))
	sent(t, n, 4, 0, 63, []byte("d"))
	sent(t, n, 5, 63, 0, []byte("e"))
	doubled(t, n, 1, 6)
	all := n.Flight()
	// Nodes without letters, and some that may not be; those that letters are from, too.
	for _, node := range []int{1, 3, 6, 62, -1, 64, 65, -5, 256, 1 << 32, 1<<32 + 5, math.MinInt, math.MaxInt} {
		n.Clear(node)
		has(t, n, all...)
	}
	n.Clear(5)
	has(t, n, letter(2, 2, 5, 4, "b"), letter(4, 4, 0, 63, "d"), letter(5, 5, 63, 0, "e"))
	gone(t, n, 1, 3, 6)
	n.Clear(5)
	n.Clear(63)
	has(t, n, letter(2, 2, 5, 4, "b"), letter(5, 5, 63, 0, "e"))
	n.Clear(0)
	has(t, n, letter(2, 2, 5, 4, "b"))
	if n.Sent() != 6 {
		t.Errorf("%d was sent", n.Sent())
	}
	sent(t, n, 7, 5, 5, []byte("f"))
	has(t, n, letter(2, 2, 5, 4, "b"), letter(7, 7, 5, 5, "f"))
}
