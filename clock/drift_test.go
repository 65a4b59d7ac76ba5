package clock_test

import (
	"fmt"
	"math"
	"slices"
	"testing"

	"berthmaster/api"
	"berthmaster/clock"
)

// alone answers a course of one clock.
func alone(goes ...int) [][]int {
	course := make([][]int, len(goes))
	for i, gone := range goes {
		course[i] = []int{gone}
	}
	return course
}

// short answers a course as a text, of a long one its first steps.
func short(course [][]int) string {
	if len(course) > 40 {
		return fmt.Sprintf("%d .. of %d steps", course[:40], len(course))
	}
	return fmt.Sprint(course)
}

// keeps fails the test unless Keeps answers that.
func keeps(t *testing.T, course [][]int, node, drift int, want bool) {
	t.Helper()
	if is, e := clock.Keeps(course, node, drift); is != want || e != api.OK {
		t.Errorf("Keeps(%s, %d, %d): %t, error %d, not %t", short(course), node, drift, is, e, want)
	}
}

// unkept fails the test unless Keeps answers ErrArg, and nothing else.
func unkept(t *testing.T, course [][]int, node, drift int) {
	t.Helper()
	if is, e := clock.Keeps(course, node, drift); is || e != api.ErrArg {
		t.Errorf("Keeps(%s, %d, %d): %t, error %d, not ErrArg", short(course), node, drift, is, e)
	}
}

// waits fails the test unless Wait answers that.
func waits(t *testing.T, lease, drift, want int, e api.Errno) {
	t.Helper()
	if n, is := clock.Wait(lease, drift); n != want || is != e {
		t.Errorf("Wait(%d, %d): %d, error %d, not %d, error %d", lease, drift, n, is, want, e)
	}
}

// repeated answers how a clock goes on that goes on by the same in n steps.
func repeated(gone, n int) []int {
	return slices.Repeat([]int{gone}, n)
}

// TestDriftExamples has the chapter's examples of Wait and Keeps.
func TestDriftExamples(t *testing.T) {
	waits(t, 10, 0, 14, api.OK)
	waits(t, 10, 100, 17, api.OK)
	waits(t, 0, 0, 0, api.ErrArg)
	keeps(t, alone(1, 1, 1, 1), 0, 0, true)
	keeps(t, alone(1, 0, 0, 0, 1), 0, 0, false)
	keeps(t, alone(1, 0, 0, 1), 0, 0, true)
}

// TestKeepsBySmallCourses asks all courses of few steps, of small numbers, at several drifts.
func TestKeepsBySmallCourses(t *testing.T) {
	var yes, no int
	for _, drift := range []int{0, 1, 100, 250, 333, 499, 500} {
		for n := range 1 << 10 {
			var goes []int
			for x := n; x > 0; x >>= 2 {
				goes = append(goes, x&3)
			}
			for _, l := range [][]int{goes, append([]int{0}, goes...), append(repeated(0, 3), goes...), append(goes, goes...)} {
				want := keeping(l, drift)
				keeps(t, alone(l...), 0, drift, want)
				if want {
					yes++
				} else {
					no++
				}
			}
		}
	}
	if yes < 1000 || no < 1000 {
		t.Errorf("%d keep, %d don't", yes, no)
	}
}

// TestKeepsByLongCourses asks courses that stray now and then, among them many that are near what may just be.
func TestKeepsByLongCourses(t *testing.T) {
	var yes, no int
	for seed := range 600 {
		d := dice(seed)
		drift := []int{0, 1, 10, 100, 333, 500}[d.below(6)]
		var goes []int
		for range 1 + d.below(60) {
			goes = append(goes, []int{1, 1, 1, 1, 1, 0, 2, 1, 1, d.below(4)}[d.below(10)])
		}
		want := keeping(goes, drift)
		keeps(t, alone(goes...), 0, drift, want)
		if want {
			yes++
		} else {
			no++
		}
	}
	if yes < 100 || no < 100 {
		t.Errorf("%d keep, %d don't", yes, no)
	}
}

// edge is a part of a course that is just what may be, in g steps, and how it stands.
type edge struct {
	g, drift, sum int
	want          bool
}

// edges answers parts that are just at their least or greatest, one tick or a thousandth beyond it, or a thousandth within.
func edges() []edge {
	return []edge{
		{1, 0, 3, true}, {1, 0, 4, false}, {1, 0, 0, true}, {1, 500, 3, true}, {1, 500, 4, false},
		{2, 0, 4, true}, {2, 0, 5, false}, {2, 0, 0, true}, {2, 500, 5, true}, {2, 500, 6, false}, {2, 500, 0, true},
		{3, 0, 5, true}, {3, 0, 6, false}, {3, 0, 1, true}, {3, 0, 0, false}, {3, 333, 0, false}, {3, 334, 0, true}, {4, 500, 0, true}, {5, 500, 0, false},
		{6, 500, 11, true}, {6, 500, 12, false}, {6, 500, 1, true}, {7, 500, 2, true}, {7, 500, 1, false},
		{10, 100, 13, true}, {10, 100, 14, false}, {10, 100, 7, true}, {10, 100, 6, false},
		{10, 99, 13, false}, {10, 99, 12, true}, {10, 99, 7, false}, {10, 99, 8, true},
		{1000, 0, 1002, true}, {1000, 0, 1003, false}, {1000, 0, 998, true}, {1000, 0, 997, false},
		{1000, 1, 1003, true}, {1000, 1, 1004, false}, {1000, 1, 997, true}, {1000, 1, 996, false},
		// A thousandth beyond, and within.
		{999, 1, 1002, false}, {999, 1, 1001, true}, {999, 1, 996, false}, {999, 1, 997, true}, {1001, 1, 1004, true}, {1001, 1, 1005, false}, {1001, 1, 998, true}, {1001, 1, 997, false},
		{333, 3, 336, false}, {333, 3, 335, true}, {333, 3, 330, false}, {333, 3, 331, true}, {667, 3, 671, true}, {667, 3, 672, false}, {667, 3, 663, true}, {667, 3, 662, false},
		{3, 333, 6, false}, {3, 334, 6, true}, {3, 333, 5, true}, {7, 143, 10, true}, {7, 142, 10, false}, {9, 111, 6, false}, {9, 112, 6, true}, {9, 111, 12, false}, {9, 112, 12, true},
		{501, 499, 753, false}, {501, 499, 752, true}, {501, 499, 249, false}, {501, 499, 250, true},
		{1 << 20, 0, 1<<20 + 2, true}, {1 << 20, 0, 1<<20 + 3, false}, {1 << 20, 0, 1<<20 - 2, true}, {1 << 20, 0, 1<<20 - 3, false},
	}
}

// strayed answers how a clock goes on by sum in g steps that is as fast as it may be, or as slow, in all parts but the whole.
func strayed(g, drift, sum int) []int {
	goes, before := make([]int, g), 0
	for i := range goes {
		steps := i + 1
		now := (steps*(1000+drift))/1000 + 2
		if sum < g {
			now = max(0, (steps*(1000-drift)+999)/1000-2)
		}
		now = min(now, sum)
		if steps == g {
			now = sum
		}
		goes[i], before = now-before, now
	}
	return goes
}

// TestKeepsAtEdges asks parts that are just what may be, as a whole course, and within one.
func TestKeepsAtEdges(t *testing.T) {
	whole := 0 // those where nothing but the whole course goes beyond
	for _, x := range edges() {
		if fair(x.g, x.sum, x.drift) != x.want {
			t.Fatalf("%v is not as the model says", x)
		}
		goes := strayed(x.g, x.drift, x.sum)
		if x.g <= 1001 && keeping(goes, x.drift) != x.want {
			t.Fatalf("%v doesn't stray well: %d", x, goes)
		}
		if x.g <= 1001 && !x.want && keeping(goes[1:], x.drift) && keeping(goes[:x.g-1], x.drift) {
			whole++
		}
		keeps(t, alone(goes...), 0, x.drift, x.want)
		if x.g > 1001 {
			continue
		}
		for _, more := range []struct{ ahead, behind []int }{{repeated(1, 1), nil}, {nil, repeated(1, 1)}, {repeated(1, 40), repeated(1, 40)}} {
			l := slices.Concat(more.ahead, goes, more.behind)
			keeps(t, alone(l...), 0, x.drift, keeping(l, x.drift))
			if !x.want {
				keeps(t, alone(l...), 0, x.drift, false)
			}
		}
	}
	if whole < 15 {
		t.Errorf("%d courses go beyond as a whole alone", whole)
	}
}

// TestKeepsAsksEachPart has courses that go as they should from the beginning to each step, or to the end, but not in a part between.
func TestKeepsAsksEachPart(t *testing.T) {
	for _, goes := range [][]int{
		{2, 1, 0, 0, 0, 1, 1}, // 2 more at first, then 3 fewer
		{1, 1, 0, 2, 2, 2, 0}, // 1 fewer at first, then 3 more
		{0, 1, 1, 2, 2, 2, 1},
		{1, 2, 2, 1, 0, 0, 0},
		{3, 0, 0, 0, 3},
		{3, 1, 1, 1, 0, 0, 0, 1, 1, 1, 2, 2},
		{0, 0, 3, 3},
	} {
		if keeping(goes, 0) {
			t.Fatalf("%d keeps", goes)
		}
		keeps(t, alone(goes...), 0, 0, false)
		keeps(t, alone(slices.Concat(repeated(1, 100), goes, repeated(1, 100))...), 0, 0, false)
	}
	keeps(t, alone(3, 1, 1, 0, 1, 1, 0, 1, 1), 0, 0, true)
	keeps(t, alone(0, 1, 0, 1, 2, 1, 2, 1, 1), 0, 0, true)
	keeps(t, alone(0, 1, 0, 1, 2, 1, 2, 1, 2), 0, 0, false)
}

func TestKeepsOfDrift(t *testing.T) {
	for _, drift := range []int{-1, 501, -2, 502, 1000, 1001, -500, 1 << 32, 1<<32 + 1, -1 << 32, math.MinInt, math.MaxInt} {
		unkept(t, nil, 0, drift)
		unkept(t, alone(1, 1), 0, drift)
		unkept(t, alone(5, 0, 0, 0, 0), 63, drift)
	}
	// Each drift that may be, where 501 and 499 thousandths would be told otherwise.
	for drift := range 501 {
		keeps(t, nil, 0, drift, true)
		keeps(t, alone(repeated(0, 2)...), 0, drift, true)
		keeps(t, alone(repeated(0, 4)...), 0, drift, drift >= 500)
	}
}

func TestKeepsOfNode(t *testing.T) {
	for _, node := range []int{-1, 64, -2, 65, 127, 255, 256, 1 << 32, 1<<32 + 1, -1 << 32, math.MinInt, math.MaxInt} {
		unkept(t, nil, node, 0)
		unkept(t, alone(1, 1), node, 500)
		unkept(t, [][]int{repeated(1, 70)}, node, 0)
	}
	// Of 64 clocks one goes wrong, each in turn, in steps as long as they may be asked for, and longer.
	for wrong := range 64 {
		for _, size := range []int{64, 65, 200} {
			course := make([][]int, 6)
			for i := range course {
				course[i] = repeated(1, size)
			}
			course[2][wrong] = 4
			for node := range 64 {
				keeps(t, course, node, 0, node != wrong)
			}
		}
	}
}

// TestKeepsBeyondTheListsEnd has steps without numbers, and with fewer than the node asks for: its clock stands there.
func TestKeepsBeyondTheListsEnd(t *testing.T) {
	for _, node := range []int{0, 1, 62, 63} {
		keeps(t, nil, node, 0, true)
		keeps(t, [][]int{}, node, 0, true)
		keeps(t, [][]int{nil}, node, 0, true)
		keeps(t, [][]int{{}, nil}, node, 0, true)
		keeps(t, [][]int{nil, {}, nil}, node, 0, false)
		keeps(t, [][]int{nil, {}, nil, {}}, node, 500, true)
		keeps(t, [][]int{nil, {}, nil, {}, nil}, node, 500, false)
		just, fewer := repeated(1, node+1), repeated(1, node)
		keeps(t, [][]int{just, fewer, just, fewer, just}, node, 0, true)
		keeps(t, [][]int{just, fewer, just, fewer, just, fewer}, node, 0, false)
		keeps(t, [][]int{just, fewer[:node:node], just}, node, 0, true)
		keeps(t, [][]int{just, just[:node], just[:node], just[:node], just}, node, 0, false)
		keeps(t, [][]int{{}, just, repeated(1, 63), repeated(1, 64), just}, node, 0, true)
		keeps(t, [][]int{{}, just, repeated(1, 63), repeated(1, 64), nil}, node, 0, node < 63)
	}
	// Of other lengths, each clock as it goes.
	course := [][]int{{1, 1, 1}, {1}, {1, 2}, {}, {1, 0, 1}, {1, 1}, {2}, {1, 3, 1}}
	for node := range 5 {
		goes := make([]int, len(course))
		for i, step := range course {
			if node < len(step) {
				goes[i] = step[node]
			}
		}
		for _, drift := range []int{0, 100, 500} {
			keeps(t, course, node, drift, keeping(goes, drift))
		}
	}
}

// TestKeepsOfNumbers has numbers that may be, and may not, of the node that is asked for and of others, in each step.
func TestKeepsOfNumbers(t *testing.T) {
	for _, bad := range []int{-1, 1<<20 + 1, -2, 1<<20 + 2, 1 << 21, 1 << 32, 1<<32 + 1, -1 << 32, math.MinInt, math.MaxInt} {
		for _, at := range []int{0, 1, 2, 63, 64, 99} {
			for step := range 4 {
				course := [][]int{repeated(1, 100), repeated(1, 100), repeated(1, 100), repeated(1, 100)}
				course[step][at] = bad
				for _, node := range []int{0, 1, 2, 63} {
					unkept(t, course, node, 0)
					unkept(t, course, node, 500)
				}
			}
		}
		unkept(t, alone(bad), 0, 0)
		unkept(t, alone(bad), 5, 0)
		// Behind a part that went astray already.
		unkept(t, alone(9, 9, 9, bad), 0, 0)
		unkept(t, append(alone(repeated(0, 9)...), []int{1, bad}), 0, 0)
	}
	for _, good := range []int{0, 1 << 20} {
		course := [][]int{{1, good}, {1, 1}, {1, good}}
		keeps(t, course, 0, 0, true)
		keeps(t, course, 1, 0, good == 0)
		keeps(t, alone(good), 0, 0, good == 0)
		keeps(t, alone(good), 0, 500, good == 0)
		keeps(t, alone(good), 1, 0, true)
	}
	// What stands behind a step's end is none of its numbers.
	spare := append(make([]int, 0, 8), 1, -5, 1<<30)
	keeps(t, [][]int{spare[:1], spare[:1], spare[:1]}, 0, 0, true)
	keeps(t, [][]int{spare[:1], spare[:1]}, 1, 0, true)
	unkept(t, [][]int{spare[:2]}, 0, 0)
	rows := append(alone(1, 1), []int{-1})
	keeps(t, rows[:2], 0, 0, true)
}

// TestKeepsOfMostSteps has as many steps as there may be, and one more.
func TestKeepsOfMostSteps(t *testing.T) {
	course := make([][]int, 1<<20+1)
	one := []int{1, 1 << 20}
	for i := range course {
		course[i] = one
	}
	keeps(t, course[:1<<20], 0, 0, true)
	unkept(t, course, 0, 0)
	unkept(t, course, 5, 500)
	keeps(t, course[1:], 0, 0, true)
	// As fast as it may be asked for: the sums are as great as they get.
	keeps(t, course[:1<<20], 1, 500, false)
	keeps(t, course[:1<<20], 2, 500, false)
	unkept(t, make([][]int, 1<<20+1), 0, 500)
	keeps(t, make([][]int, 1<<20), 0, 500, false)
	// What goes wrong at the very end is seen.
	for _, last := range []int{3, 4} {
		course[1<<20-1] = []int{last}
		keeps(t, course[:1<<20], 0, 0, last == 3)
	}
	course[1<<20-1] = []int{-1}
	unkept(t, course[:1<<20], 0, 0)
	course[1<<20-1] = nil
	course[1<<20-2] = nil
	keeps(t, course[:1<<20], 0, 0, true)
	course[1<<20-4] = nil
	keeps(t, course[:1<<20], 0, 0, false)
}

// TestKeepsOfALongSlowCourse strays by a thousandth, so slowly that only the whole of it goes beyond what may be.
func TestKeepsOfALongSlowCourse(t *testing.T) {
	const n = 1 << 20
	for _, x := range []struct {
		sum, drift int
		want       bool
	}{
		{n + n/1000 + 2, 1, true}, {n + n/1000 + 3, 1, false}, {n - n/1000 - 2, 1, true}, {n - n/1000 - 3, 1, false},
		{n + n/2 + 2, 500, true}, {n + n/2 + 3, 500, false}, {n/2 - 2, 500, true}, {n/2 - 3, 500, false},
	} {
		goes := strayed(n, x.drift, x.sum)
		if fair(n, x.sum, x.drift) != x.want {
			t.Fatalf("%v is not as the model says", x)
		}
		keeps(t, alone(goes...), 0, x.drift, x.want)
	}
}

func TestKeepsChangesNothing(t *testing.T) {
	want := [][]int{{1, 2, 3}, nil, {4}, {1 << 20}}
	room := append(make([][]int, 0, 9), slices.Clone(want)...)
	room[0] = append(make([]int, 0, 9), 1, 2, 3)
	for i := range room[0][3:9] {
		room[0][3:9][i] = 7
	}
	for _, x := range [][2]int{{0, 0}, {1, 500}, {63, 0}, {64, 0}, {0, 501}} {
		clock.Keeps(room, x[0], x[1])
	}
	if !slices.EqualFunc(room, want, slices.Equal) || !slices.EqualFunc(room[4:9], make([][]int, 5), slices.Equal) || !slices.Equal(room[0][3:9], repeated(7, 6)) {
		t.Errorf("Keeps changed %d", room[:9])
	}
	// What is changed behind a call counts in the next one alone.
	course := alone(1, 1, 1)
	keeps(t, course, 0, 0, true)
	course[1][0] = 9
	keeps(t, course, 0, 0, false)
	course[1] = []int{1}
	keeps(t, course, 0, 0, true)
}

func TestWaitIsTheLeast(t *testing.T) {
	for drift := range 501 {
		for lease := 1; lease <= 40; lease++ {
			want := 0
			for !enough(want, lease, drift) {
				want++
			}
			waits(t, lease, drift, want, api.OK)
		}
	}
	d := dice(7)
	leases := []int{1 << 20, 1<<20 - 1, 1<<20 - 2, 1 << 19, 1000000, 999998, 99998, 65536}
	for range 300 {
		leases = append(leases, 1+d.below(1<<20))
	}
	for _, lease := range leases {
		for _, drift := range []int{0, 1, 2, 3, 100, 250, 333, 499, 500, d.below(501)} {
			n, e := clock.Wait(lease, drift)
			if !enough(n, lease, drift) || enough(n-1, lease, drift) || e != api.OK {
				t.Errorf("Wait(%d, %d): %d, error %d", lease, drift, n, e)
			}
		}
	}
}

func TestWaitEdges(t *testing.T) {
	waits(t, 1, 0, 5, api.OK)
	waits(t, 1, 500, 11, api.OK)
	waits(t, 1<<20, 0, 1<<20+4, api.OK)
	waits(t, 1<<20, 500, 3*(1<<20+2)+2, api.OK)
	for _, bad := range []int{0, -1, -2, -3, -1000, 1<<20 + 1, 1<<20 + 2, 1 << 21, 1 << 32, 1<<32 + 5, -1 << 32, math.MinInt, math.MaxInt} {
		for _, drift := range []int{0, 1, 500, -1, 501, bad} {
			waits(t, bad, drift, 0, api.ErrArg)
		}
	}
	for _, bad := range []int{-1, 501, -2, 502, 999, 1000, 1001, 2000, -1000, 1 << 32, 1<<32 + 5, -1 << 32, math.MinInt, math.MaxInt} {
		for _, lease := range []int{0, 1, 10, 1 << 20, 1<<20 + 1} {
			waits(t, lease, bad, 0, api.ErrArg)
		}
	}
}

// TestKeepsWithAllWrong has all that may be wrong at once.
func TestKeepsWithAllWrong(t *testing.T) {
	course := make([][]int, 1<<20+1)
	course[3] = []int{-1, 1<<20 + 1}
	unkept(t, course, -1, -1)
	unkept(t, course, 64, 501)
	unkept(t, alone(-1), 64, 501)
	unkept(t, alone(-1), 64, 0)
	unkept(t, alone(-1), 0, 501)
	unkept(t, nil, 64, 501)
}
