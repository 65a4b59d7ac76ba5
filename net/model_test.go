package net_test

import (
	"bytes"
	"fmt"
	"hash/crc32"
	"slices"
	"strings"
	"testing"

	"berthmaster/api"
	"berthmaster/net"
)

// carrier is what a net can do, and what the model of one can do.
type carrier interface {
	Send(from, to int, body []byte) (uint64, api.Errno)
	Deliver(number uint64) (api.Letter, api.Errno)
	Lose(number uint64) api.Errno
	Double(number uint64) (uint64, api.Errno)
	Flight() []api.Letter
	To(node int) []uint64
	Clear(node int)
	Sent() uint64
}

// model is a net told in the chapter's words: all letters that were ever sent or doubled, in that order, and which of them are no more in flight.
type model struct {
	all  []api.Letter
	gone []bool
}

// at answers the place of the letter in flight of that number, or -1.
func (m *model) at(number uint64) int {
	return slices.IndexFunc(m.all, func(l api.Letter) bool { return l.Number == number && !m.gone[l.Number-1] })
}

// full answers whether as many letters as may be are in flight.
func (m *model) full() bool {
	n := 0
	for _, gone := range m.gone {
		if !gone {
			n++
		}
	}
	return n == 4096
}

// next answers the number of the letter that is put in flight.
func (m *model) next(first uint64, from, to int, body []byte) uint64 {
	number := uint64(len(m.all)) + 1
	if first == 0 {
		first = number
	}
	m.all = append(m.all, api.Letter{Number: number, First: first, From: from, To: to, Body: body})
	m.gone = append(m.gone, false)
	return number
}

func (m *model) Send(from, to int, body []byte) (uint64, api.Errno) {
	if from < 0 || from > 63 || to < 0 || to > 63 {
		return 0, api.ErrArg
	}
	if len(body) > 16384 {
		return 0, api.ErrLong
	}
	if m.full() {
		return 0, api.ErrFull
	}
	return m.next(0, from, to, bytes.Clone(body)), api.OK
}

func (m *model) Deliver(number uint64) (api.Letter, api.Errno) {
	i := m.at(number)
	if i < 0 {
		return api.Letter{}, api.ErrNone
	}
	m.gone[i] = true
	return m.all[i], api.OK
}

func (m *model) Lose(number uint64) api.Errno {
	_, e := m.Deliver(number)
	return e
}

func (m *model) Double(number uint64) (uint64, api.Errno) {
	i := m.at(number)
	if i < 0 {
		return 0, api.ErrNone
	}
	if m.full() {
		return 0, api.ErrFull
	}
	l := m.all[i]
	return m.next(l.First, l.From, l.To, l.Body), api.OK
}

func (m *model) Flight() []api.Letter {
	var l []api.Letter
	for i, one := range m.all {
		if !m.gone[i] {
			l = append(l, one)
		}
	}
	return l
}

func (m *model) To(node int) []uint64 {
	var l []uint64
	for _, one := range m.Flight() {
		if one.To == node {
			l = append(l, one.Number)
		}
	}
	return l
}

func (m *model) Clear(node int) {
	for i, one := range m.all {
		m.gone[i] = m.gone[i] || one.To == node
	}
}

func (m *model) Sent() uint64 {
	return uint64(len(m.all))
}

// call is one of a net's calls that change it, with what is handed in.
type call struct {
	what     string
	from, to int
	n        int // how many bytes the body has
	number   uint64
}

// answer is all that a call answers.
type answer struct {
	number uint64
	e      api.Errno
	letter string
}

// made makes the call, and answers what it answered.
func made(n carrier, c call) answer {
	switch c.what {
	case "send":
		number, e := n.Send(c.from, c.to, mixed(c.n, c.n+c.from))
		return answer{number: number, e: e}
	case "deliver":
		l, e := n.Deliver(c.number)
		return answer{e: e, letter: spelt(l)}
	case "lose":
		return answer{e: n.Lose(c.number)}
	case "double":
		number, e := n.Double(c.number)
		return answer{number: number, e: e}
	case "clear":
		n.Clear(c.to)
		return answer{}
	}
	return answer{e: -1}
}

// spelt answers a letter as a text.
func spelt(l api.Letter) string {
	return fmt.Sprintf("%d (%d) from %d to %d: %d bytes %08x", l.Number, l.First, l.From, l.To, len(l.Body), crc32.ChecksumIEEE(l.Body))
}

// told answers all that a net tells as a text.
func told(n carrier) string {
	var b strings.Builder
	fmt.Fprintln(&b, n.Sent())
	for _, l := range n.Flight() {
		fmt.Fprintln(&b, spelt(l))
	}
	for node := -1; node <= 64; node++ {
		if l := n.To(node); len(l) > 0 {
			fmt.Fprintln(&b, "to", node, l)
		}
	}
	return b.String()
}

// mixed answers n bytes that look like nothing.
func mixed(n, seed int) []byte {
	b := make([]byte, n)
	x := uint64(seed)*0x9E3779B97F4A7C15 + 1
	for i := range b {
		x = x*6364136223846793005 + 1442695040888963407
		b[i] = byte(x >> 33)
	}
	return b
}

// fresh answers a new net.
func fresh(t *testing.T) *net.Net {
	t.Helper()
	n := net.New()
	if n == nil {
		t.Fatal("New answers none")
	}
	return n
}

// sent sends a letter, whose number must be that one.
func sent(t *testing.T, n carrier, want uint64, from, to int, body []byte) {
	t.Helper()
	if number, e := n.Send(from, to, body); number != want || e != api.OK {
		t.Fatalf("Send(%d, %d, %d bytes): %d, error %d, not %d", from, to, len(body), number, e, want)
	}
}

// doubled doubles a letter: the new one's number must be that one.
func doubled(t *testing.T, n carrier, number, want uint64) {
	t.Helper()
	if double, e := n.Double(number); double != want || e != api.OK {
		t.Fatalf("Double(%d): %d, error %d, not %d", number, double, e, want)
	}
}

// delivered delivers a letter, which must be that one.
func delivered(t *testing.T, n carrier, want api.Letter) {
	t.Helper()
	if l, e := n.Deliver(want.Number); !same(l, want) || e != api.OK {
		t.Errorf("Deliver(%d): %s, error %d, not %s", want.Number, spelt(l), e, spelt(want))
	}
}

// lost loses a letter.
func lost(t *testing.T, n carrier, number uint64) {
	t.Helper()
	if e := n.Lose(number); e != api.OK {
		t.Errorf("Lose(%d): error %d", number, e)
	}
}

// refused fails the test unless the calls are answered that error and nothing else, and nothing that is told has changed by them.
func refused(t *testing.T, n carrier, want api.Errno, l ...call) {
	t.Helper()
	before := told(n)
	for _, c := range l {
		zero := answer{e: want}
		if c.what == "deliver" {
			zero.letter = spelt(api.Letter{})
		}
		if a := made(n, c); a != zero {
			t.Errorf("%v: %v, not %v", c, a, zero)
		}
	}
	if after := told(n); after != before {
		t.Errorf("%v, refused with %d, changed\n%sto\n%s", l, want, before, after)
	}
}

// gone fails the test unless no letters of these numbers are in flight.
func gone(t *testing.T, n carrier, numbers ...uint64) {
	t.Helper()
	var l []call
	for _, number := range numbers {
		l = append(l, call{what: "deliver", number: number}, call{what: "lose", number: number}, call{what: "double", number: number})
	}
	refused(t, n, api.ErrNone, l...)
}

// has fails the test unless just these letters are in flight.
func has(t *testing.T, n carrier, want ...api.Letter) {
	t.Helper()
	l := n.Flight()
	if !slices.EqualFunc(l, want, same) {
		t.Errorf("in flight are\n%snot\n%s", lines(l), lines(want))
	}
	for node := -1; node <= 64; node++ {
		var numbers []uint64
		for _, one := range want {
			if one.To == node {
				numbers = append(numbers, one.Number)
			}
		}
		if l := n.To(node); !slices.Equal(l, numbers) {
			t.Errorf("to %d are %d, not %d", node, l, numbers)
		}
	}
}

// same answers whether two letters are alike.
func same(a, b api.Letter) bool {
	return a.Number == b.Number && a.First == b.First && a.From == b.From && a.To == b.To && bytes.Equal(a.Body, b.Body)
}

// lines answers letters as lines of a text.
func lines(l []api.Letter) string {
	text := ""
	for _, one := range l {
		text += spelt(one) + "\n"
	}
	return text
}

// letter answers a letter with a text as its body.
func letter(number, first uint64, from, to int, body string) api.Letter {
	return api.Letter{Number: number, First: first, From: from, To: to, Body: []byte(body)}
}
