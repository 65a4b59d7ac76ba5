package resource_test

import (
	"math"
	"slices"
	"strings"
	"testing"

	"berthmaster/api"
	"berthmaster/resource"
)

// dice rolls numbers that look like chance, the same from the same seed.
type dice uint64

func (d *dice) below(n int64) int64 {
	*d = *d*6364136223846793005 + 1442695040888963407
	return int64(uint64(*d)>>17) % n
}

// rolled answers amounts that may be, many of them near an edge, or alike.
func (d *dice) rolled() api.Amounts {
	var a api.Amounts
	for _, p := range numbers(&a) {
		switch d.below(8) {
		case 0:
			*p = 0
		case 1, 2:
			*p = d.below(4)
		case 3:
			*p = most - d.below(3)
		case 4:
			*p = most/2 - 1 + d.below(3)
		case 5:
			*p = most/3 - 1 + d.below(3)
		case 6:
			*p = d.below(1000)
		default:
			*p = d.below(most + 1)
		}
	}
	return a
}

// small answers amounts of which many can be added.
func (d *dice) small() api.Amounts {
	return of(d.below(most/8), d.below(3), d.below(most/8), d.below(1000))
}

// wild answers amounts of which some may not be.
func (d *dice) wild() api.Amounts {
	a := d.rolled()
	if d.below(6) == 0 {
		a = with(a, int(d.below(4)), wrong()[d.below(int64(len(wrong())))])
	}
	return a
}

// TestAsTheModel makes calls with amounts of whatever kind, and holds them against numbers without bounds.
func TestAsTheModel(t *testing.T) {
	var count [api.ErrFit + 1]int
	for seed := range 40000 {
		d := dice(seed)
		a, b := d.wild(), d.wild()
		n := []int64{0, 1, 2, 3, d.below(1000), d.below(most), most, -1, math.MaxInt64, math.MinInt64, most + 1}[d.below(11)]
		l := []api.Amounts{a, b}
		for range d.below(6) {
			l = append(l, []api.Amounts{d.small(), d.small(), d.small(), d.wild()}[d.below(4)])
		}
		adds(t, a, b, adding(a, b))
		subs(t, a, b, subbing(a, b))
		subs(t, a, resource.Least(a, b), subbing(a, resource.Least(a, b)))
		scales(t, a, n, scaling(a, n))
		sums(t, l, summing(l))
		sums(t, l[2:], summing(l[2:]))
		share, e := sharing(a, b)
		shares(t, a, b, share, e)
		least := resource.Least(a, b)
		share, e = sharing(least, b)
		shares(t, least, b, share, e)
		for _, e := range []api.Errno{adding(a, b).e, subbing(a, b).e, subbing(a, least).e, scaling(a, n).e, summing(l).e, summing(l[2:]).e, e} {
			count[e]++
		}
		if may(a) {
			spelt(t, a, spelling(a), api.OK)
		} else {
			spelt(t, a, "", api.ErrArg)
		}
		if t.Failed() {
			t.FailNow()
		}
	}
	for _, e := range []api.Errno{api.OK, api.ErrArg, api.ErrOver, api.ErrFit} {
		if count[e] < 5000 {
			t.Errorf("%d of error %d", count[e], e)
		}
	}
}

// added answers the sum of both, or nothing where that is over.
func added(t *testing.T, a, b api.Amounts) (api.Amounts, bool) {
	t.Helper()
	sum, e := resource.Add(a, b)
	if e != api.OK && e != api.ErrOver {
		t.Fatalf("Add(%v, %v): error %d", a, b, e)
	}
	return sum, e == api.OK
}

// TestAddAndSub holds what follows of Add: it goes both ways and in any order of joining, Sub gives the other one back, Fits is kept.
func TestAddAndSub(t *testing.T) {
	whole, over := 0, 0
	for seed := range 40000 {
		d := dice(seed)
		a, b, c := d.rolled(), d.rolled(), d.small()
		if d.below(2) == 0 {
			a, b = d.small(), d.small()
		}
		one, is := added(t, a, b)
		two, also := added(t, b, a)
		if one != two || is != also {
			t.Fatalf("Add of %v and %v: %v, the other way %v", a, b, one, two)
		}
		if !is {
			over++
			continue
		}
		subs(t, one, b, told{a: a})
		subs(t, one, a, told{a: b})
		sums(t, []api.Amounts{a, b}, told{a: one})
		if !resource.Fits(a, one) || !resource.Fits(b, one) {
			t.Fatalf("%v or %v do not fit their sum", a, b)
		}
		left, is := added(t, one, c)
		behind, also := added(t, b, c)
		if !is {
			over++
			continue
		}
		right, is := added(t, a, behind)
		if left != right || !is || !also {
			t.Fatalf("Add of %v, %v and %v: %v, joined otherwise %v", a, b, c, left, right)
		}
		for _, l := range [][]api.Amounts{{a, b, c}, {a, c, b}, {b, a, c}, {b, c, a}, {c, a, b}, {c, b, a}} {
			sums(t, l, told{a: left})
		}
		whole++
	}
	if whole < 1000 || over < 1000 {
		t.Errorf("%d sums, %d are over", whole, over)
	}
}

// TestScaleIsAdds holds that Scale is as many Adds, and a Sum of as many.
func TestScaleIsAdds(t *testing.T) {
	whole, over := 0, 0
	for seed := range 4000 {
		d := dice(seed)
		a := d.rolled()
		switch d.below(3) {
		case 0:
			a = of(d.below(most/30), d.below(3), d.below(most/15), d.below(1000))
		case 1:
			a = of(d.below(3), most/[]int64{5, 8, 16, 19, 20}[d.below(5)]+d.below(2), 0, 1)
		}
		sum, is := api.Amounts{}, true
		for n := range 24 {
			if is {
				scales(t, a, int64(n), told{a: sum})
				sums(t, slices.Repeat([]api.Amounts{a}, n), told{a: sum})
				whole++
			} else {
				scales(t, a, int64(n), told{e: api.ErrOver})
				sums(t, slices.Repeat([]api.Amounts{a}, n), told{e: api.ErrOver})
				over++
			}
			if is {
				sum, is = added(t, sum, a)
			}
		}
	}
	if whole < 10000 || over < 10000 {
		t.Errorf("%d sums, %d are over", whole, over)
	}
}

// TestFitsIsAnOrder holds that each fits itself, that two that fit each other are the same, that what fits goes on, that Add keeps it, and how Least, Most and Share go with it.
func TestFitsIsAnOrder(t *testing.T) {
	fits, goesOn, kept := 0, 0, 0
	for seed := range 40000 {
		d := dice(seed)
		near := func() api.Amounts { return of(d.below(2), d.below(2), d.below(3), d.below(2)) }
		a, b, c := near(), near(), near()
		if d.below(3) == 0 {
			a, b, c = d.wild(), d.wild(), d.rolled()
		}
		if !resource.Fits(a, a) {
			t.Fatalf("%v does not fit itself", a)
		}
		if resource.Fits(a, b) && resource.Fits(b, a) != (a == b) {
			t.Fatalf("%v and %v fit each other", a, b)
		}
		least, more := resource.Least(a, b), resource.Most(a, b)
		if !resource.Fits(least, a) || !resource.Fits(least, b) || !resource.Fits(a, more) || !resource.Fits(b, more) {
			t.Fatalf("%v and %v: the least %v, the most %v", a, b, least, more)
		}
		if resource.Fits(a, b) != (least == a) || resource.Fits(a, b) != (more == b) {
			t.Fatalf("Fits(%v, %v): %t, but the least %v, the most %v", a, b, resource.Fits(a, b), least, more)
		}
		if !resource.Fits(a, b) {
			continue
		}
		fits++
		if resource.Fits(b, c) {
			goesOn++
			if !resource.Fits(a, c) {
				t.Fatalf("%v fits %v, that fits %v, which it does not", a, b, c)
			}
		}
		if !may(a, b) {
			continue
		}
		if more, is := added(t, b, c); is {
			less, also := added(t, a, c)
			if !also || !resource.Fits(less, more) {
				t.Fatalf("%v fits %v, but not with %v more", a, b, c)
			}
			kept++
		}
	}
	if fits < 1000 || goesOn < 1000 || kept < 1000 {
		t.Errorf("%d fit, %d go on, %d are kept", fits, goesOn, kept)
	}
}

// TestParseOfText holds that Parse of Text gives the amounts back, and that Text of what Parse told is told again.
func TestParseOfText(t *testing.T) {
	for seed := range 40000 {
		d := dice(seed)
		a := d.rolled()
		s, e := resource.Text(a)
		if e != api.OK {
			t.Fatalf("Text(%v): error %d", a, e)
		}
		says(t, s, a)
		// The parts in another order, with more blanks.
		l := strings.Split(s, " ")
		slices.Reverse(l)
		says(t, strings.Join(l, strings.Repeat(" ", 1+int(d.below(4)))), a)
	}
}

// TestParseOfTurnedTexts parses texts with some bytes turned, taken out or put in, against the model.
func TestParseOfTurnedTexts(t *testing.T) {
	var count [api.ErrFit + 1]int
	for seed := range 60000 {
		d := dice(seed)
		s, _ := resource.Text(d.rolled())
		b := []byte(s)
		for range 1 + d.below(3) {
			at := int(d.below(int64(len(b) + 1)))
			c := " =019acdkmnoprstu\t\x00\xff"[d.below(20)]
			switch d.below(3) {
			case 0:
				b = slices.Insert(b, at, c)
			case 1:
				if at < len(b) {
					b = slices.Delete(b, at, at+1)
				}
			default:
				if at < len(b) {
					b[at] = c
				}
			}
		}
		want, fault := parsing(string(b))
		if a, f := resource.Parse(string(b)); a != want || f != fault {
			t.Fatalf("Parse(%q): %v, %v, not %v, %v", b, a, f, want, fault)
		}
		count[fault.Err]++
	}
	if count[api.OK] < 1000 || count[api.ErrBad] < 1000 || count[api.ErrOver] < 500 {
		t.Errorf("by errors: %v", count)
	}
}
