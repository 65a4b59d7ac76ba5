package net_test

import (
	"bytes"
	"math"
	"runtime"
	"slices"
	"testing"

	"berthmaster/api"
	"berthmaster/net"
)

func TestFlightRises(t *testing.T) {
	n := fresh(t)
	var want []api.Letter
	for i := range 300 {
		number := uint64(i) + 1
		sent(t, n, number, i%64, i*7%64, mixed(i, i))
		want = append(want, api.Letter{Number: number, First: number, From: i % 64, To: i * 7 % 64, Body: mixed(i, i)})
	}
	for range 20 {
		has(t, n, want...)
	}
	for number := uint64(300); number > 0; number -= 3 {
		lost(t, n, number)
	}
	want = slices.DeleteFunc(want, func(l api.Letter) bool { return l.Number%3 == 0 })
	for range 20 {
		has(t, n, want...)
	}
}

// TestTo asks for nodes with letters, without, that letters are from only, and that may not be.
func TestTo(t *testing.T) {
	n := fresh(t)
	for node := -2; node <= 66; node++ {
		if l := n.To(node); len(l) != 0 {
			t.Errorf("to %d are %d", node, l)
		}
	}
	for i := range 130 {
		sent(t, n, uint64(i)+1, 20, 50+i%3, nil)
	}
	doubled(t, n, 2, 131)
	sent(t, n, 132, 50, 0, nil)
	sent(t, n, 133, 50, 63, nil)
	var want [3][]uint64
	for number := uint64(1); number <= 130; number++ {
		want[(number-1)%3] = append(want[(number-1)%3], number)
	}
	want[1] = append(want[1], 131)
	for range 20 {
		for i, l := range want {
			if to := n.To(50 + i); !slices.Equal(to, l) {
				t.Fatalf("to %d are %d", 50+i, to)
			}
		}
	}
	if l, m := n.To(0), n.To(63); !slices.Equal(l, []uint64{132}) || !slices.Equal(m, []uint64{133}) {
		t.Errorf("to 0 and 63 are %d and %d", l, m)
	}
	for _, node := range []int{20, 1, 62, 49, 53, -1, 64, 50 - 64, 50 + 64, 50 + 256, 1 << 32, 1<<32 + 50, math.MinInt, math.MaxInt} {
		if l := n.To(node); len(l) != 0 {
			t.Errorf("to %d are %d", node, l)
		}
	}
}

// TestSent asks behind everything that happens, errors too: a number is told though its letter is gone.
func TestSent(t *testing.T) {
	n := fresh(t)
	is := func(want uint64) {
		t.Helper()
		if n.Sent() != want {
			t.Errorf("%d was sent, not %d", n.Sent(), want)
		}
	}
	is(0)
	made(n, call{what: "send", from: -1})
	made(n, call{what: "send", n: 16385})
	made(n, call{what: "double", number: 1})
	made(n, call{what: "deliver", number: 1})
	is(0)
	sent(t, n, 1, 0, 1, nil)
	is(1)
	made(n, call{what: "send", to: 64})
	made(n, call{what: "send", n: 70000})
	made(n, call{what: "double", number: 2})
	is(1)
	doubled(t, n, 1, 2)
	is(2)
	lost(t, n, 2)
	is(2)
	delivered(t, n, letter(1, 1, 0, 1, ""))
	is(2)
	for number := uint64(3); number <= 4098; number++ {
		sent(t, n, number, 0, 1, nil)
	}
	is(4098)
	made(n, call{what: "send"})
	made(n, call{what: "double", number: 5})
	is(4098)
	n.Clear(1)
	is(4098)
	sent(t, n, 4099, 0, 1, nil)
	is(4099)
}

// spoiled changes all bytes of b, its spare room too.
func spoiled(b []byte) {
	for i := range b[:cap(b)] {
		b[:cap(b)][i] ^= 255
	}
}

// crossed has letters with bodies of several lengths, and doubles of them.
func crossed(t *testing.T) (n *net.Net, l []api.Letter) {
	n = fresh(t)
	for i, size := range []int{0, 1, 5, 100, 16384, 33} {
		number := uint64(i) + 1
		sent(t, n, number, i, i%2, mixed(size, i))
		l = append(l, api.Letter{Number: number, First: number, From: i, To: i % 2, Body: mixed(size, i)})
	}
	for _, first := range []uint64{3, 4, 4, 5, 1} {
		number := n.Sent() + 1
		doubled(t, n, first, number)
		double := l[first-1]
		double.Number = number
		l = append(l, double)
	}
	return n, l
}

func TestAnswersAreNewMemory(t *testing.T) {
	n, want := crossed(t)
	for range 2 {
		one, two := n.Flight(), n.Flight()
		// Letter by letter: none of an answer shares its bytes, or its spare room, with another one.
		for i := range one {
			spoiled(one[i].Body)
			if !slices.EqualFunc(one[i+1:], want[i+1:], same) {
				t.Errorf("letter %d of an answer of Flight shares memory with others", i+1)
			}
		}
		if !slices.EqualFunc(two, want, same) {
			t.Errorf("two answers of Flight share memory")
		}
		clear(one[:cap(one)])
		if !slices.EqualFunc(two, want, same) {
			t.Errorf("two answers of Flight share memory")
		}
		has(t, n, want...)
		to, again := n.To(0), n.To(0)
		clear(to[:cap(to)])
		if !slices.Equal(again, []uint64{1, 3, 5, 7, 10, 11}) {
			t.Errorf("two answers of To share memory: %d", again)
		}
		has(t, n, want...)
	}
}

// TestDeliveredIsNewMemory delivers letters and their doubles, and changes each: the others, and what Flight answered ahead, stay.
func TestDeliveredIsNewMemory(t *testing.T) {
	n, want := crossed(t)
	ahead := n.Flight()
	for i := range want {
		one, e := n.Deliver(want[i].Number)
		if !same(one, want[i]) || e != api.OK {
			t.Errorf("Deliver(%d): %s, error %d", want[i].Number, spelt(one), e)
		}
		spoiled(one.Body)
		has(t, n, want[i+1:]...)
	}
	if !slices.EqualFunc(ahead, want, same) {
		t.Errorf("an answer of Flight shares memory with one of Deliver")
	}
}

// TestWhatWasAnsweredStays goes on behind answers: they don't change later.
func TestWhatWasAnsweredStays(t *testing.T) {
	n, want := crossed(t)
	ahead, to := n.Flight(), n.To(1)
	one, e := n.Deliver(4)
	n.Clear(0)
	n.Clear(1)
	for i := range 20 {
		sent(t, n, uint64(i)+12, 0, 1, mixed(100, 50+i))
	}
	if !slices.EqualFunc(ahead, want, same) || !slices.Equal(to, []uint64{2, 4, 6, 8, 9}) || !same(one, want[3]) || e != api.OK {
		t.Errorf("answers changed later: %s%d\n%s", lines(ahead), to, spelt(one))
	}
}

func TestWhatIsHandedInStaysAsItWas(t *testing.T) {
	n := fresh(t)
	memory := mixed(200, 9)
	b := memory[:130]
	sent(t, n, 1, 0, 1, b)
	sent(t, n, 2, 0, 1, b[:3])
	sent(t, n, 3, 0, 1, b[:0])
	sent(t, n, 4, 0, 1, b[3:9])
	doubled(t, n, 1, 5)
	if !bytes.Equal(memory, mixed(200, 9)) {
		t.Errorf("what was handed in is changed")
	}
	spoiled(b)
	was := mixed(200, 9)
	want := []api.Letter{{Number: 1, First: 1, To: 1, Body: was[:130]}, {Number: 2, First: 2, To: 1, Body: was[:3]}, {Number: 3, First: 3, To: 1}, {Number: 4, First: 4, To: 1, Body: was[3:9]}, {Number: 5, First: 1, To: 1, Body: was[:130]}}
	has(t, n, want...)
	held := bytes.Clone(memory)
	for _, l := range n.Flight() {
		spoiled(l.Body)
	}
	for _, l := range want {
		one, e := n.Deliver(l.Number)
		if !same(one, l) || e != api.OK {
			t.Errorf("Deliver(%d): %s, error %d", l.Number, spelt(one), e)
		}
		spoiled(one.Body)
	}
	if !bytes.Equal(memory, held) {
		t.Errorf("what was answered is what was handed in")
	}
}

// TestAnsweredIsSentAgain sends what was delivered, as it is: the two don't know of each other.
func TestAnsweredIsSentAgain(t *testing.T) {
	n := fresh(t)
	sent(t, n, 1, 0, 1, []byte("abc"))
	l, _ := n.Deliver(1)
	sent(t, n, 2, 1, 0, l.Body)
	l.Body[0] = 'x'
	has(t, n, letter(2, 2, 1, 0, "abc"))
}

// heap answers how much memory is held.
func heap() int {
	var m runtime.MemStats
	runtime.GC()
	runtime.ReadMemStats(&m)
	return int(m.HeapAlloc)
}

// TestMemoryGoesBack lets many letters go in each way: they don't stand on in memory.
func TestMemoryGoesBack(t *testing.T) {
	n := fresh(t)
	b := make([]byte, 16384)
	before := heap()
	for _, way := range []string{"deliver", "lose", "clear"} {
		for range 2048 {
			n.Send(0, 1, b)
			n.Double(n.Sent())
		}
		for number := n.Sent() - 4095; number <= n.Sent() && way != "clear"; number++ {
			made(n, call{what: way, number: number})
		}
		n.Clear(1)
		if len(n.Flight()) != 0 {
			t.Errorf("%d are in flight", len(n.Flight()))
		}
		if grown := heap() - before; grown > 4<<20 {
			t.Errorf("%s: %d bytes of memory more", way, grown)
		}
	}
	sent(t, n, 3*4096+1, 0, 1, nil)
}
