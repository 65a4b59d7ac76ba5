package resource

import (
	"strconv"
	"strings"

	"berthmaster/api"
)

const (
	nothing = "none" // the text of amounts that are all 0
	equals  = "="
	blank   = ' '
	ten     = 10
)

// names are those of the four, in their order.
var names = [kinds]string{"cpu", "ram", "disk", "ports"}

// Text answers the text of the amounts.
func Text(a api.Amounts) (string, api.Errno) {
	if mayNot(a) {
		return "", api.ErrArg
	}
	var b []byte
	for i, x := range amounts(a).four() {
		if x == 0 {
			continue
		}
		if len(b) > 0 {
			b = append(b, blank)
		}
		b = append(b, names[i]+equals...)
		b = strconv.AppendInt(b, x, ten)
	}
	if len(b) == 0 {
		return nothing, api.OK
	}
	return string(b), api.OK
}

// Parse answers the amounts that a text says.
func Parse(s string) (api.Amounts, api.Fault) {
	if s == nothing {
		return api.Amounts{}, api.Fault{}
	}
	var told four
	var there [kinds]bool
	at := 0
	for {
		end := partEnd(s, at)
		// At a blank that should not be, or at the end, this is an empty part, which is none.
		kind, digits := part(s[at:end])
		if kind < 0 || there[kind] {
			return api.Amounts{}, api.Fault{Err: api.ErrBad, At: at}
		}
		n, is := number(digits)
		if !is {
			return api.Amounts{}, api.Fault{Err: api.ErrOver, At: at}
		}
		told[kind], there[kind] = n, true
		if end == len(s) {
			return told.amounts(), api.Fault{}
		}
		at = end
		for at < len(s) && s[at] == blank {
			at++
		}
	}
}

// partEnd answers the place behind the part that begins at a place.
func partEnd(s string, at int) int {
	n := strings.IndexByte(s[at:], blank)
	if n < 0 {
		return len(s)
	}
	return at + n
}

// part answers which of the four a part is about, and its digits; below 0, if it is none.
func part(s string) (int, string) {
	name, digits, is := strings.Cut(s, equals)
	if !is || !decimal(digits) {
		return -1, ""
	}
	for i, known := range names {
		if name == known {
			return i, digits
		}
	}
	return -1, ""
}

// decimal answers whether a text is decimal digits without needless zeros ahead.
func decimal(s string) bool {
	for i := range len(s) {
		if s[i] < '0' || s[i] > '9' {
			return false
		}
	}
	return s == "0" || s != "" && s[0] != '0'
}

// number answers what decimal digits say; false, if it is above MaxAmount.
func number(digits string) (int64, bool) {
	var n int64
	for i := range len(digits) {
		digit := int64(digits[i] - '0')
		if n > (api.MaxAmount-digit)/ten {
			return 0, false
		}
		n = n*ten + digit
	}
	return n, true
}
