package snap

import (
	"strconv"
	"strings"
)

const (
	maxLetters   = 6 // of a checkpoint's name
	numberDigits = 12
	maxNumber    = 999_999_999_999 // the greatest number that has so many digits
	mark         = "-snap-"        // between a checkpoint's name and a snapshot's number
	halfMark     = "-snapnew"      // behind a checkpoint's name: the file that a snapshot is written to
)

// mayNotBe answers whether a text may not be a checkpoint's name.
func mayNotBe(name string) bool {
	if name == "" || len(name) > maxLetters {
		return true
	}
	for i := range len(name) {
		if name[i] < 'a' || name[i] > 'z' {
			return true
		}
	}
	return false
}

// file answers the name of the file of the snapshot of that number.
func (s *Store) file(number uint64) string {
	digits := strconv.FormatUint(number, 10)
	return s.name + mark + strings.Repeat("0", numberDigits-len(digits)) + digits
}

// half answers the name of the file that a snapshot is written to.
func (s *Store) half() string {
	return s.name + halfMark
}

// number answers the number that a file's name tells, if it is the name of one of the checkpoint's snapshots.
func (s *Store) number(file string) (number uint64, is bool) {
	name, digits, is := strings.Cut(file, mark)
	if !is || name != s.name || len(digits) != numberDigits {
		return 0, false
	}
	number, err := strconv.ParseUint(digits, 10, 64)
	if err != nil {
		return 0, false
	}
	return number, true
}
