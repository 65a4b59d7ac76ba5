package resource_test

import (
	"math"
	"slices"
	"testing"

	"berthmaster/api"
	"berthmaster/resource"
)

// TestExamples has the chapter's examples of numbers.
func TestExamples(t *testing.T) {
	adds(t, of(1, 2, 0, 0), of(1<<40, 0, 0, 0), told{e: api.ErrOver})
	subs(t, of(5, 5, 0, 1), of(5, 6, 0, 0), told{e: api.ErrFit})
	subs(t, of(5, 6, 0, 1), of(5, 5, 0, 0), told{a: of(0, 1, 0, 1)})
	shares(t, of(250, 0, 0, 0), of(1000, 5, 0, 0), 250, api.OK)
	shares(t, api.Amounts{}, api.Amounts{}, 0, api.OK)
}

// TestCheck has each of the four at each edge, beside others that may be.
func TestCheck(t *testing.T) {
	for _, others := range []int64{0, 1, most} {
		for kind := range 4 {
			for _, x := range edges() {
				want := api.OK
				if x < 0 || x > most {
					want = api.ErrArg
				}
				if e := resource.Check(with(all(others), kind, x)); e != want {
					t.Errorf("Check(%v): error %d, not %d", with(all(others), kind, x), e, want)
				}
			}
		}
	}
}

// TestWrongAmounts hands in amounts of which one of the four may not be, in each place, beside all that would be another error.
func TestWrongAmounts(t *testing.T) {
	for kind := range 4 {
		for _, x := range wrong() {
			for _, others := range []int64{0, 1, most} {
				a := with(all(others), kind, x)
				for _, b := range []api.Amounts{{}, all(1), all(most), with(all(most), kind, 0), with(api.Amounts{}, kind, most), a, all(-1), all(most + 1)} {
					adds(t, a, b, told{e: api.ErrArg})
					adds(t, b, a, told{e: api.ErrArg})
					subs(t, a, b, told{e: api.ErrArg})
					subs(t, b, a, told{e: api.ErrArg})
					shares(t, a, b, 0, api.ErrArg)
					shares(t, b, a, 0, api.ErrArg)
					sums(t, []api.Amounts{a}, told{e: api.ErrArg})
					sums(t, []api.Amounts{a, b}, told{e: api.ErrArg})
					sums(t, []api.Amounts{b, b, a}, told{e: api.ErrArg})
					sums(t, []api.Amounts{all(most), b, all(most), a}, told{e: api.ErrArg})
				}
				for _, n := range edges() {
					scales(t, a, n, told{e: api.ErrArg})
				}
				spelt(t, a, "", api.ErrArg)
			}
		}
	}
}

// TestAdd has sums that are just MaxAmount, and one above it, in each of the four.
func TestAdd(t *testing.T) {
	adds(t, of(1, 2, 3, 4), of(50, 60, 70, 80), told{a: of(51, 62, 73, 84)})
	adds(t, api.Amounts{}, api.Amounts{}, told{})
	adds(t, all(most), api.Amounts{}, told{a: all(most)})
	adds(t, all(most/2), all(most/2), told{a: all(most)})
	adds(t, all(most), all(most), told{e: api.ErrOver})
	for kind := range 4 {
		for _, x := range []int64{0, 1, 2, 7, most / 3, most / 2, most - 1, most} {
			rest := most - x
			adds(t, with(all(5), kind, x), with(all(6), kind, rest), told{a: with(all(11), kind, most)})
			if x > 0 {
				adds(t, with(all(5), kind, x), with(all(6), kind, rest+1), told{e: api.ErrOver})
				adds(t, one(kind, x), one(kind, rest+1), told{e: api.ErrOver})
			}
			if rest > 0 {
				adds(t, with(all(5), kind, x), with(all(6), kind, rest-1), told{a: with(all(11), kind, most-1)})
			}
		}
	}
}

// TestSub has equal amounts, and amounts that one of the four keeps from fitting.
func TestSub(t *testing.T) {
	subs(t, of(51, 62, 73, 84), of(50, 60, 70, 80), told{a: of(1, 2, 3, 4)})
	subs(t, api.Amounts{}, api.Amounts{}, told{})
	subs(t, all(most), api.Amounts{}, told{a: all(most)})
	subs(t, api.Amounts{}, all(most), told{e: api.ErrFit})
	for _, a := range []api.Amounts{all(1), all(most), of(1, 2, 3, 4), of(0, most, 0, 1)} {
		subs(t, a, a, told{})
	}
	for kind := range 4 {
		for _, x := range []int64{0, 1, 7, most / 2, most - 1} {
			subs(t, with(all(most), kind, x), one(kind, x+1), told{e: api.ErrFit})
			subs(t, with(all(most), kind, x), with(all(3), kind, x), told{a: with(all(most-3), kind, 0)})
			subs(t, with(all(9), kind, x+1), with(all(3), kind, x), told{a: with(all(6), kind, 1)})
		}
	}
}

// TestScale has numbers whose product is just MaxAmount, one above it, and above what an int64 holds.
func TestScale(t *testing.T) {
	some := of(1, 20, 300, 4000)
	scales(t, some, 0, told{})
	scales(t, some, 1, told{a: some})
	scales(t, some, 3, told{a: of(3, 60, 900, 12000)})
	for _, n := range []int64{-1, -2, -most, math.MinInt64} {
		scales(t, some, n, told{e: api.ErrArg})
		scales(t, api.Amounts{}, n, told{e: api.ErrArg})
		scales(t, all(most), n, told{e: api.ErrArg})
	}
	for _, n := range []int64{0, 1, 2, most, most + 1, 1 << 62, math.MaxInt64} {
		scales(t, api.Amounts{}, n, told{})
	}
	for kind := range 4 {
		// 1099511627777 is 257 times 4278255361.
		for _, x := range []int64{1, 2, 1 << 20, most / 2, most} {
			scales(t, with(all(1), kind, x), most/x, told{a: with(all(most/x), kind, most)})
			scales(t, with(all(0), kind, x), most/x+1, told{e: api.ErrOver})
		}
		scales(t, one(kind, 257), 4278255361, told{e: api.ErrOver})
		scales(t, one(kind, 4278255361), 257, told{e: api.ErrOver})
		scales(t, one(kind, 257), 4278255360, told{a: one(kind, most-256)})
		scales(t, one(kind, 1), most+1, told{e: api.ErrOver})
		// 2^64 and 2^63 times as much: in an int64 that would be 0, or below.
		for _, c := range [][2]int64{{1 << 32, 1 << 32}, {1 << 40, 1 << 24}, {1 << 40, 1 << 23}, {2, 1 << 62}, {4, 1 << 62}, {most, math.MaxInt64}, {1, math.MaxInt64}, {3, math.MaxInt64/3*2 + 1}} {
			scales(t, one(kind, c[0]), c[1], told{e: api.ErrOver})
			scales(t, with(all(1), kind, c[0]), c[1], told{e: api.ErrOver})
		}
	}
}

// TestSum has lists of none, of one, of many, and of ones that are over at each place, with amounts behind it.
func TestSum(t *testing.T) {
	sums(t, nil, told{})
	sums(t, []api.Amounts{}, told{})
	sums(t, []api.Amounts{of(1, 2, 3, 4)}, told{a: of(1, 2, 3, 4)})
	sums(t, []api.Amounts{all(most)}, told{a: all(most)})
	sums(t, []api.Amounts{of(1, 2, 3, 4), of(10, 20, 30, 40), of(100, 200, 300, 400)}, told{a: of(111, 222, 333, 444)})
	sums(t, slices.Repeat([]api.Amounts{{}}, 1000), told{})
	sums(t, slices.Repeat([]api.Amounts{all(1 << 30)}, 1024), told{a: all(most)})
	sums(t, slices.Repeat([]api.Amounts{all(1 << 30)}, 1025), told{e: api.ErrOver})
	// So many that an int64 would not hold their sum: it would be below 0.
	sums(t, slices.Repeat([]api.Amounts{all(most)}, 1<<23), told{e: api.ErrOver})
	for kind := range 4 {
		sums(t, []api.Amounts{one(kind, most-3), one(kind, 1), one(kind, 2)}, told{a: one(kind, most)})
		sums(t, []api.Amounts{one(kind, most-3), one(kind, 2), one(kind, 2)}, told{e: api.ErrOver})
		for place := range 5 {
			l := slices.Repeat([]api.Amounts{all(1)}, 8)
			l[place] = one(kind, most)
			sums(t, l, told{e: api.ErrOver})
			sums(t, append(l[:place:place], l[place]), summing(l[:place+1]))
		}
	}
}

// TestByEdges makes each call at all pairs of edges, in each of the four.
func TestByEdges(t *testing.T) {
	for kind := range 4 {
		for _, x := range edges() {
			for _, y := range edges() {
				for _, others := range []int64{0, 1, most} {
					a, b := with(all(others), kind, x), with(all(1), kind, y)
					adds(t, a, b, adding(a, b))
					subs(t, a, b, subbing(a, b))
					scales(t, a, y, scaling(a, y))
					sums(t, []api.Amounts{b, a, b}, summing([]api.Amounts{b, a, b}))
					n, e := sharing(a, b)
					shares(t, a, b, n, e)
				}
			}
		}
	}
}
