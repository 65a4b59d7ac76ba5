package clock

import (
	"slices"

	"berthmaster/api"
)

const (
	leastNode  = 0
	leastDrift = 0
	leastLease = 1
	leastGone  = 0 // what a clock goes on by in a step
	mostGone   = 1 << 20
	mostSteps  = 1 << 20 // of a course
	thousand   = 1000    // drift is told in thousandths
	slack      = 2       // what a clock may go on by beside its drift, more or less
)

// Keeps answers whether that node's clock keeps to the drift in the course.
func Keeps(course [][]int, node, drift int) (bool, api.Errno) {
	if noDrift(drift) || node < leastNode || node > api.MaxNode || len(course) > mostSteps || slices.ContainsFunc(course, noStep) {
		return false, api.ErrArg
	}
	return within(firstSums(course, node), int64(drift)), api.OK
}

// Wait answers how far a clock must go on so that each other one that keeps to the drift, as it does, has surely gone on by the lease.
func Wait(lease, drift int) (int, api.Errno) {
	if noDrift(drift) || lease < leastLease || lease > api.MaxLease {
		return 0, api.ErrArg
	}
	slowest, fastest := int64(thousand-drift), int64(thousand+drift)
	// The slowest clock takes (lease + slack) / slowest thousands of steps; the fastest one goes on by fastest in each of these.
	gone := (int64(lease+slack)*fastest + slowest - 1) / slowest
	return int(gone) + slack, api.OK
}

// within answers whether a clock with these sums keeps to the drift in each part of its course.
func within(sums []int64, drift int64) bool {
	// In thousandths: how far the clock is ahead of the slowest one that may be, and of the fastest one; the most and the least of it at any place so far.
	var most, least int64
	for steps, sum := range sums {
		slowest, fastest := (thousand-drift)*int64(steps), (thousand+drift)*int64(steps)
		ofSlowest, ofFastest := thousand*sum-slowest, thousand*sum-fastest
		if ofSlowest < most-slack*thousand || ofFastest > least+slack*thousand {
			return false
		}
		most, least = max(most, ofSlowest), min(least, ofFastest)
	}
	return true
}

// firstSums answers how far the node's clock has gone on behind no step, behind the first, and so on.
func firstSums(course [][]int, node int) []int64 {
	sums := make([]int64, 1, len(course)+1)
	for i, step := range course {
		gone := 0
		if node < len(step) {
			gone = step[node]
		}
		sums = append(sums, sums[i]+int64(gone))
	}
	return sums
}

// noStep answers whether a step has a number that may not be.
func noStep(step []int) bool {
	return slices.ContainsFunc(step, func(gone int) bool { return gone < leastGone || gone > mostGone })
}

// noDrift answers whether the drift is out of its bounds.
func noDrift(drift int) bool {
	return drift < leastDrift || drift > api.MaxDrift
}
