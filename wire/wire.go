// Package wire is layer 1: numbers and texts as bytes, each in just one way. See shared/doc/01-wire.md.
package wire

import (
	"math"

	"berthmaster/api"
)

const (
	digitBits = 7              // bits of a number that a digit has
	base      = 1 << digitBits // added to a digit that is not the last one
	lastPlace = 9              // of the tenth digit, the last one that a number of 64 bits can have
)

// Reader reads the bytes that it was made of, one thing behind the other, up to its first error.
type Reader struct {
	made bool // New made it: a Reader that was only declared is none
	b    []byte
	at   int
	err  api.Errno
}

// AppendUint answers b with the bytes of the number x behind it.
func AppendUint(b []byte, x uint64) []byte {
	return putDigits(copied(b, lastPlace+1), x)
}

// AppendInt answers b with the bytes of the signed number x behind it.
func AppendInt(b []byte, x int64) []byte {
	// x>>63 is -1 below 0, and turns twice the number into -2 times it and -1; the least number needs that wrap-round.
	return AppendUint(b, uint64(x<<1^x>>63))
}

// AppendBool answers b with the byte of the truth x behind it.
func AppendBool(b []byte, x bool) []byte {
	out := copied(b, 1)
	if x {
		return append(out, 1)
	}
	return append(out, 0)
}

// AppendText answers b with the bytes of the text s behind it.
func AppendText(b []byte, s string) ([]byte, api.Errno) {
	if len(s) > api.MaxText {
		return nil, api.ErrLong
	}
	out := putDigits(copied(b, lastPlace+1+len(s)), uint64(len(s)))
	return append(out, s...), api.OK
}

// copied answers the bytes of b in new memory with room for more: an answer shares nothing with what was handed in.
func copied(b []byte, more int) []byte {
	return append(make([]byte, 0, len(b)+more), b...)
}

// putDigits appends the number's digits to own, which must be nobody else's.
func putDigits(own []byte, x uint64) []byte {
	for x >= base {
		own = append(own, byte(x)|base)
		x >>= digitBits
	}
	return append(own, byte(x))
}

// ReadUint answers the number at the beginning of b, and how many bytes it has.
func ReadUint(b []byte) (x uint64, n int, e api.Errno) {
	for i, digit := range b {
		if i == lastPlace && digit != 1 {
			return 0, 0, api.ErrBad
		}
		x |= uint64(digit&(base-1)) << uint(digitBits*i)
		if digit >= base {
			continue
		}
		if digit == 0 && i > 0 {
			return 0, 0, api.ErrBad
		}
		return x, i + 1, api.OK
	}
	return 0, 0, api.ErrShort
}

// New makes a reader of b, at its beginning.
func New(b []byte) *Reader {
	return &Reader{made: true, b: copied(b, 0)}
}

// Uint reads a number.
func (r *Reader) Uint() uint64 {
	if r.stopped() {
		return 0
	}
	x, n := r.number(math.MaxUint64)
	r.at += n
	return x
}

// Int reads a signed number.
func (r *Reader) Int() int64 {
	if r.stopped() {
		return 0
	}
	x := r.Uint()
	return int64(x>>1) ^ -int64(x&1)
}

// Bool reads a truth.
func (r *Reader) Bool() bool {
	if r.stopped() {
		return false
	}
	if r.at == len(r.b) {
		r.err = api.ErrShort
		return false
	}
	truth := r.b[r.at]
	if truth > 1 {
		r.err = api.ErrBad
		return false
	}
	r.at++
	return truth == 1
}

// Text reads a text.
func (r *Reader) Text() string {
	if r.stopped() {
		return ""
	}
	size, n := r.number(api.MaxText)
	if r.stopped() {
		return ""
	}
	rest := r.b[r.at+n:]
	if uint64(len(rest)) < size {
		// The place stays ahead of the count: it is the text that has the error.
		r.err = api.ErrShort
		return ""
	}
	r.at += n + int(size)
	return string(rest[:size])
}

// Count reads a number that may not be above most.
func (r *Reader) Count(most int) int {
	if r.stopped() {
		return 0
	}
	if most < 0 {
		r.err = api.ErrArg
		return 0
	}
	x, n := r.number(uint64(most))
	r.at += n
	return int(x)
}

// number answers the number at the place, and how many bytes it has, without going behind it: two zeros, if the reader stops there.
func (r *Reader) number(most uint64) (uint64, int) {
	x, n, e := ReadUint(r.b[r.at:])
	if e == api.OK && x > most {
		e = api.ErrLong
	}
	if e != api.OK {
		r.err = e
		return 0, 0
	}
	return x, n
}

// stopped tells whether nothing is to be read any more: of no reader, and behind an error.
func (r *Reader) stopped() bool {
	return r.Err() != api.OK
}

// Fail stops the reader with e, if it has not stopped.
func (r *Reader) Fail(e api.Errno) {
	if !r.stopped() {
		r.err = e
	}
}

// Err answers the error at which the reader stopped.
func (r *Reader) Err() api.Errno {
	if r == nil || !r.made {
		return api.ErrNil
	}
	return r.err
}

// At answers the reader's place.
func (r *Reader) At() int {
	if r == nil || !r.made {
		return 0
	}
	return r.at
}

// Done answers the reader's error; bytes that are left are one.
func (r *Reader) Done() api.Errno {
	if !r.stopped() && r.at < len(r.b) {
		r.err = api.ErrBad
	}
	return r.Err()
}
