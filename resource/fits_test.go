package resource_test

import (
	"math"
	"testing"

	"berthmaster/api"
	"berthmaster/resource"
)

// TestFits has each of the four keep the others from fitting, also of amounts that may not be.
func TestFits(t *testing.T) {
	for _, x := range edges() {
		if a := all(x); !resource.Fits(a, a) {
			t.Errorf("%v does not fit itself", a)
		}
		for kind := range 4 {
			for _, y := range edges() {
				a, b := with(all(3), kind, x), with(all(3), kind, y)
				if is := resource.Fits(a, b); is != (x <= y) {
					t.Errorf("Fits(%v, %v): %t", a, b, is)
				}
				// The others are as far below as may be, and one is not.
				a, b = with(all(math.MinInt64), kind, x), with(all(math.MaxInt64), kind, y)
				if is := resource.Fits(a, b); is != (x <= y) {
					t.Errorf("Fits(%v, %v): %t", a, b, is)
				}
			}
		}
	}
	if resource.Fits(of(1, 2, 3, 4), of(2, 3, 4, 3)) || !resource.Fits(of(1, 2, 3, 4), of(2, 2, 4, 4)) {
		t.Error("some fit, or don't, that should not, or should")
	}
}

// TestLeastAndMost has each of the four by itself, also of amounts that may not be.
func TestLeastAndMost(t *testing.T) {
	a, b := of(1, 20, -3, math.MaxInt64), of(2, 10, -3, math.MinInt64)
	if least := resource.Least(a, b); least != of(1, 10, -3, math.MinInt64) {
		t.Errorf("Least(%v, %v): %v", a, b, least)
	}
	if most := resource.Most(a, b); most != of(2, 20, -3, math.MaxInt64) {
		t.Errorf("Most(%v, %v): %v", a, b, most)
	}
	for kind := range 4 {
		for _, x := range edges() {
			for _, y := range edges() {
				a, b := with(of(1, 2, 7, 8), kind, x), with(of(5, 6, 3, 4), kind, y)
				lesser, greater := with(of(1, 2, 3, 4), kind, min(x, y)), with(of(5, 6, 7, 8), kind, max(x, y))
				if l := resource.Least(a, b); l != lesser || l != resource.Least(b, a) {
					t.Errorf("Least(%v, %v): %v, not %v", a, b, l, lesser)
				}
				if l := resource.Most(a, b); l != greater || l != resource.Most(b, a) {
					t.Errorf("Most(%v, %v): %v, not %v", a, b, l, greater)
				}
			}
		}
	}
}

// TestShare has shares of nothing, of amounts of which some are nothing, of equal ones, and of ones that are just below a thousandth.
func TestShare(t *testing.T) {
	shares(t, api.Amounts{}, all(most), 0, api.OK)
	shares(t, of(1, 2, 3, 4), of(10, 10, 10, 10), 400, api.OK)
	shares(t, all(1), all(3), 333, api.OK)
	shares(t, all(2), all(3), 666, api.OK)
	shares(t, all(most-1), all(most), 999, api.OK)
	shares(t, all(1), all(1000), 1, api.OK)
	shares(t, all(1), all(1001), 0, api.OK)
	shares(t, all(1), all(most), 0, api.OK)
	shares(t, of(0, 0, 0, 999), of(0, 0, 0, 1000000), 0, api.OK)
	for kind := range 4 {
		for _, x := range []int64{1, 2, 999, most} {
			shares(t, one(kind, x), one(kind, x), 1000, api.OK)
			shares(t, with(all(1), kind, x), with(all(2), kind, x), 1000, api.OK)
			shares(t, with(all(1), kind, 0), with(all(10), kind, 0), 100, api.OK)
			shares(t, with(all(1), kind, 3), with(all(10), kind, 8), 375, api.OK)
			shares(t, with(all(3), kind, 1), with(all(8), kind, 10), 375, api.OK)
			shares(t, one(kind, x), api.Amounts{}, 0, api.ErrFit)
			shares(t, one(kind, x), with(all(most), kind, x-1), 0, api.ErrFit)
			shares(t, all(1), with(all(2), kind, 0), 0, api.ErrFit)
		}
	}
}
