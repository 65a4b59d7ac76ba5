package resource_test

import (
	"slices"
	"strings"
	"testing"

	"berthmaster/api"
	"berthmaster/resource"
)

// TestSumLeavesItsList sums a piece of a list: neither it, nor what stands around it, is changed or looked at, and a list changed behind the call changes no answer.
func TestSumLeavesItsList(t *testing.T) {
	for _, list := range [][]api.Amounts{{all(1), all(2), all(3)}, {all(1), all(most), all(3)}, {all(1), all(-1), all(3)}, {}} {
		whole := slices.Concat([]api.Amounts{all(most), all(-7)}, list, []api.Amounts{all(-8), all(most)})
		kept := slices.Clone(whole)
		l := whole[2 : 2+len(list)]
		want := summing(list)
		sums(t, l, want)
		if !slices.Equal(whole, kept) {
			t.Errorf("%v was changed to %v", kept, whole)
		}
		sum, e := resource.Sum(l)
		for i := range whole {
			whole[i] = all(9)
		}
		if (told{sum, e}) != want {
			t.Errorf("the sum was changed to %v", sum)
		}
		copy(whole, kept)
		sums(t, l, want)
	}
}

// TestToldAlikeAgain makes calls again and again, with others between: each is answered as before.
func TestToldAlikeAgain(t *testing.T) {
	a, b := of(1, 2, 3, 4), of(10, 20, 30, 40)
	text := []byte("ram=7 cpu=5")
	for range 10 {
		s := string(text)
		adds(t, a, b, told{a: of(11, 22, 33, 44)})
		adds(t, a, all(most), told{e: api.ErrOver})
		subs(t, b, a, told{a: of(9, 18, 27, 36)})
		scales(t, a, 5, told{a: of(5, 10, 15, 20)})
		sums(t, []api.Amounts{a, b, a}, told{a: of(12, 24, 36, 48)})
		shares(t, a, b, 100, api.OK)
		spelt(t, a, "cpu=1 ram=2 disk=3 ports=4", api.OK)
		spelt(t, api.Amounts{}, "none", api.OK)
		says(t, s, of(5, 7, 0, 0))
		says(t, "disk=1", of(0, 0, 1, 0))
		faulty(t, s+" ram=7", api.ErrBad, 12)
		faulty(t, "ports=1099511627777", api.ErrOver, 0)
		if a != of(1, 2, 3, 4) || b != of(10, 20, 30, 40) {
			t.Fatalf("%v, %v", a, b)
		}
	}
}

// TestLongTexts parses texts that are very long, of each kind: the calls end soon.
func TestLongTexts(t *testing.T) {
	const long = 1 << 24
	faulty(t, strings.Repeat("cpu=1 ", long/6), api.ErrBad, 6)
	faulty(t, strings.Repeat("cpu", long/3), api.ErrBad, 0)
	faulty(t, strings.Repeat("=", long), api.ErrBad, 0)
	faulty(t, "cpu="+strings.Repeat("0", long), api.ErrBad, 0)
	faulty(t, "cpu="+strings.Repeat("1", long), api.ErrOver, 0)
	faulty(t, "cpu=1"+strings.Repeat(" ", long), api.ErrBad, long+5)
	says(t, "cpu=1"+strings.Repeat(" ", long)+"ram=1"+strings.Repeat(" ", long)+"disk=1"+strings.Repeat(" ", long)+"ports=1", all(1))
}
