package journal

import (
	"strconv"
	"strings"
)

const (
	maxLetters   = 8 // of a journal's name
	numberDigits = 12
	maxNumber    = 999_999_999_999 // the greatest number that has so many digits
	mark         = "-"             // between a journal's name and a segment's number
	cutMark      = "-cut"          // behind a journal's name: the file that a cut segment is made of
)

// mayNotBe answers whether a text may not be a journal's name.
func mayNotBe(name string) bool {
	if name == "" || len(name) > maxLetters {
		return true
	}
	for i := range len(name) {
		if name[i] < 'a' || name[i] > 'z' {
			return true
		}
	}
	return false
}

// segmentName answers the name of the file that begins with the record of that number.
func segmentName(name string, number uint64) string {
	digits := strconv.FormatUint(number, 10)
	return name + mark + strings.Repeat("0", numberDigits-len(digits)) + digits
}

// segmentNumber answers the number that a file's name tells, if it is the name of one of the journal's segments.
func segmentNumber(name, file string) (number uint64, is bool) {
	digits, is := strings.CutPrefix(file, name+mark)
	if !is || len(digits) != numberDigits {
		return 0, false
	}
	for i := range len(digits) {
		if digits[i] < '0' || digits[i] > '9' {
			return 0, false
		}
		number = number*10 + uint64(digits[i]-'0')
	}
	return number, true
}
