package resource_test

import (
	"fmt"
	"math"
	"math/big"
	"regexp"
	"strings"
	"testing"

	"berthmaster/api"
	"berthmaster/resource"
)

// most is the chapter's 2^40.
const most = 1099511627776

// of answers the amounts of four numbers.
func of(cpu, ram, disk, ports int64) api.Amounts {
	return api.Amounts{CPU: cpu, RAM: ram, Disk: disk, Ports: ports}
}

// one answers amounts that are all 0, but for one of the four.
func one(kind int, x int64) api.Amounts {
	return with(api.Amounts{}, kind, x)
}

// with answers the amounts with another number for one of the four.
func with(a api.Amounts, kind int, x int64) api.Amounts {
	*numbers(&a)[kind] = x
	return a
}

// all answers amounts whose four are that.
func all(x int64) api.Amounts {
	return of(x, x, x, x)
}

// numbers answers the places of the four.
func numbers(a *api.Amounts) [4]*int64 {
	return [4]*int64{&a.CPU, &a.RAM, &a.Disk, &a.Ports}
}

// told is what a call answers that answers amounts.
type told struct {
	a api.Amounts
	e api.Errno
}

// may answers, in the chapter's words, whether all of these may be.
func may(l ...api.Amounts) bool {
	for _, a := range l {
		for _, p := range numbers(&a) {
			if *p < 0 || *p > most {
				return false
			}
		}
	}
	return true
}

// fitting answers, in the chapter's words, whether one fits another.
func fitting(a, b api.Amounts) bool {
	return a.CPU <= b.CPU && a.RAM <= b.RAM && a.Disk <= b.Disk && a.Ports <= b.Ports
}

// by answers each of the four as f says, reckoned in numbers without bounds; ErrOver, if one is above 2^40.
func by(f func(x, y *big.Int) *big.Int, a, b api.Amounts) told {
	var sum api.Amounts
	ones, others := numbers(&a), numbers(&b)
	for i, p := range numbers(&sum) {
		n := f(big.NewInt(*ones[i]), big.NewInt(*others[i]))
		if n.Cmp(big.NewInt(most)) > 0 {
			return told{e: api.ErrOver}
		}
		*p = n.Int64()
	}
	return told{a: sum}
}

func plus(x, y *big.Int) *big.Int {
	return new(big.Int).Add(x, y)
}

func minus(x, y *big.Int) *big.Int {
	return new(big.Int).Sub(x, y)
}

func times(x, y *big.Int) *big.Int {
	return new(big.Int).Mul(x, y)
}

// adding answers what Add should.
func adding(a, b api.Amounts) told {
	if !may(a, b) {
		return told{e: api.ErrArg}
	}
	return by(plus, a, b)
}

// subbing answers what Sub should.
func subbing(a, b api.Amounts) told {
	switch {
	case !may(a, b):
		return told{e: api.ErrArg}
	case !fitting(b, a):
		return told{e: api.ErrFit}
	}
	return by(minus, a, b)
}

// scaling answers what Scale should.
func scaling(a api.Amounts, n int64) told {
	if !may(a) || n < 0 {
		return told{e: api.ErrArg}
	}
	return by(times, a, all(n))
}

// summing answers what Sum should.
func summing(l []api.Amounts) told {
	if !may(l...) {
		return told{e: api.ErrArg}
	}
	var sum told
	for _, a := range l {
		if sum.e == api.OK {
			sum = adding(sum.a, a)
		}
	}
	return sum
}

// sharing answers what Share should, by broken numbers.
func sharing(a, b api.Amounts) (int64, api.Errno) {
	switch {
	case !may(a, b):
		return 0, api.ErrArg
	case !fitting(a, b):
		return 0, api.ErrFit
	}
	greatest := new(big.Rat)
	parts, wholes := numbers(&a), numbers(&b)
	for i, p := range parts {
		if *wholes[i] == 0 {
			continue
		}
		if r := big.NewRat(*p*1000, *wholes[i]); r.Cmp(greatest) > 0 {
			greatest = r
		}
	}
	return new(big.Int).Div(greatest.Num(), greatest.Denom()).Int64(), api.OK
}

// spelling answers what Text should.
func spelling(a api.Amounts) string {
	s := fmt.Sprintf("cpu=%d ram=%d disk=%d ports=%d ", a.CPU, a.RAM, a.Disk, a.Ports)
	s = strings.TrimSuffix(regexp.MustCompile(`[a-z]+=0 `).ReplaceAllString(s, ""), " ")
	if s == "" {
		return "none"
	}
	return s
}

// piece is a part, as the chapter says it.
var piece = regexp.MustCompile(`^(cpu|ram|disk|ports)=(0|[1-9][0-9]*)$`)

// parsing answers what Parse should: the text is cut at each blank, and of more blanks than one the empty pieces are passed over.
func parsing(s string) (api.Amounts, api.Fault) {
	var a api.Amounts
	if s == "none" {
		return a, api.Fault{}
	}
	there := map[string]bool{}
	pieces := strings.Split(s, " ")
	at := 0
	for i, p := range pieces {
		if p == "" && i > 0 && i < len(pieces)-1 {
			at++
			continue
		}
		m := piece.FindStringSubmatch(p)
		if m == nil || there[m[1]] {
			return api.Amounts{}, api.Fault{Err: api.ErrBad, At: at}
		}
		n, _ := new(big.Int).SetString(m[2], 10)
		if n.Cmp(big.NewInt(most)) > 0 {
			return api.Amounts{}, api.Fault{Err: api.ErrOver, At: at}
		}
		there[m[1]] = true
		kind := map[string]int{"cpu": 0, "ram": 1, "disk": 2, "ports": 3}[m[1]]
		a = with(a, kind, n.Int64())
		at += len(p) + 1
	}
	return a, api.Fault{}
}

// edges are numbers that may be one of the four, or just may not.
func edges() []int64 {
	return []int64{math.MinInt64, math.MinInt64 + 1, -most, -1, 0, 1, 2, 999, 1000, most/2 - 1, most / 2, most/2 + 1, most - 1, most, most + 1, 2 * most, math.MaxInt64 - 1, math.MaxInt64}
}

// wrong are numbers that none of the four may be.
func wrong() []int64 {
	return []int64{math.MinInt64, math.MinInt64 + 1, -most - 1, -most, -2, -1, most + 1, most + 2, 2 * most, math.MaxInt64 - 1, math.MaxInt64}
}

// adds fails the test unless Add answers that.
func adds(t *testing.T, a, b api.Amounts, want told) {
	t.Helper()
	if sum, e := resource.Add(a, b); (told{sum, e}) != want {
		t.Errorf("Add(%v, %v): %v, error %d, not %v", a, b, sum, e, want)
	}
}

// subs fails the test unless Sub answers that.
func subs(t *testing.T, a, b api.Amounts, want told) {
	t.Helper()
	if left, e := resource.Sub(a, b); (told{left, e}) != want {
		t.Errorf("Sub(%v, %v): %v, error %d, not %v", a, b, left, e, want)
	}
}

// scales fails the test unless Scale answers that.
func scales(t *testing.T, a api.Amounts, n int64, want told) {
	t.Helper()
	if more, e := resource.Scale(a, n); (told{more, e}) != want {
		t.Errorf("Scale(%v, %d): %v, error %d, not %v", a, n, more, e, want)
	}
}

// sums fails the test unless Sum answers that.
func sums(t *testing.T, l []api.Amounts, want told) {
	t.Helper()
	if sum, e := resource.Sum(l); (told{sum, e}) != want {
		t.Errorf("Sum of %d, the first %v: %v, error %d, not %v", len(l), l[:min(len(l), 8)], sum, e, want)
	}
}

// shares fails the test unless Share answers that.
func shares(t *testing.T, a, b api.Amounts, want int64, e api.Errno) {
	t.Helper()
	if n, is := resource.Share(a, b); n != want || is != e {
		t.Errorf("Share(%v, %v): %d, error %d, not %d, error %d", a, b, n, is, want, e)
	}
}

// spelt fails the test unless Text answers that.
func spelt(t *testing.T, a api.Amounts, want string, e api.Errno) {
	t.Helper()
	if s, is := resource.Text(a); s != want || is != e {
		t.Errorf("Text(%v): %q, error %d, not %q, error %d", a, s, is, want, e)
	}
}

// says fails the test unless Parse answers the amounts.
func says(t *testing.T, s string, want api.Amounts) {
	t.Helper()
	if a, f := resource.Parse(s); a != want || f != (api.Fault{}) {
		t.Errorf("Parse(%.200q): %v, %v, not %v", s, a, f, want)
	}
}

// faulty fails the test unless Parse answers that error at that place, and nothing else.
func faulty(t *testing.T, s string, e api.Errno, at int) {
	t.Helper()
	if a, f := resource.Parse(s); a != (api.Amounts{}) || f != (api.Fault{Err: e, At: at}) {
		t.Errorf("Parse(%.200q): %v, %v, not error %d at %d", s, a, f, e, at)
	}
}
