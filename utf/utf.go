// Package utf reads and writes UTF-8, strictly: the one encoding of each code point, and nothing else. It is layer 1: see shared/doc/01-utf.md.
package utf

import (
	"iter"
	"strings"

	"gauger/api"
)

// Limits.
const (
	MaxPoint = 0x10ffff
	MaxBytes = 1 << 20
)

// Errors.
const (
	ErrShort api.Errno = 10 // bytes that are cut
	ErrForm  api.Errno = 11 // bytes that are bad
)

// The surrogates: first the high ones, then the low ones.
const (
	firstHigh = 0xd800
	firstLow  = 0xdc00
	lastLow   = 0xdfff
)

// The code points that surrogates stand for begin with firstPair; each high one stands for lowOnes of them.
const (
	firstPair = 0x10000
	lowOnes   = 0x400
)

// A beginning is what some forms have in common: a first byte from first to last, which is mark and a part of the code point, a second byte from low to high, and size bytes in all.
type beginning struct {
	first, last byte
	mark        byte
	low, high   byte
	size        int
}

// Bounds of the second byte rule out code points written too long, surrogates, and what is beyond MaxPoint: so two bytes tell that they are bad, even where a string ends.
var beginnings = [...]beginning{
	{first: 0x00, last: 0x7f, size: 1},
	{first: 0xc2, last: 0xdf, mark: 0xc0, low: 0x80, high: 0xbf, size: 2},
	{first: 0xe0, last: 0xe0, mark: 0xe0, low: 0xa0, high: 0xbf, size: 3},
	{first: 0xe1, last: 0xec, mark: 0xe0, low: 0x80, high: 0xbf, size: 3},
	{first: 0xed, last: 0xed, mark: 0xe0, low: 0x80, high: 0x9f, size: 3},
	{first: 0xee, last: 0xef, mark: 0xe0, low: 0x80, high: 0xbf, size: 3},
	{first: 0xf0, last: 0xf0, mark: 0xf0, low: 0x90, high: 0xbf, size: 4},
	{first: 0xf1, last: 0xf3, mark: 0xf0, low: 0x80, high: 0xbf, size: 4},
	{first: 0xf4, last: 0xf4, mark: 0xf0, low: 0x80, high: 0x8f, size: 4},
}

// Point reports whether a number is a code point.
func Point(x int) bool {
	return x >= 0 && x <= MaxPoint && (x < firstHigh || x > lastLow)
}

// Size returns how many bytes the form of a code point has.
func Size(x int) (int, api.Errno) {
	switch {
	case !Point(x):
		return 0, api.ErrArg
	case x < 0x80:
		return 1, api.OK
	case x < 0x800:
		return 2, api.OK
	case x < 0x10000:
		return 3, api.OK
	}
	return 4, api.OK
}

// Append appends the form of a code point.
func Append(b []byte, x int) ([]byte, api.Errno) {
	n, e := Size(x)
	if e != api.OK {
		return nil, e
	}
	switch n {
	case 1:
		b = append(b, byte(x))
	case 2:
		b = append(b, byte(0xc0+x/64), tail(x))
	case 3:
		b = append(b, byte(0xe0+x/4096), tail(x/64), tail(x))
	case 4:
		b = append(b, byte(0xf0+x/262144), tail(x/4096), tail(x/64), tail(x))
	}
	return b, api.OK
}

// tail returns the byte of a form, behind its first one, that has the last six bits of a number.
func tail(x int) byte { return byte(0x80 + x%64) }

// Read reads a code point at an offset.
func Read(s string, at int) (int, int, api.Errno) {
	switch {
	case at < 0 || at > len(s):
		return 0, 0, api.ErrArg
	case at == len(s):
		return 0, 0, api.ErrNone
	}
	b, ok := begin(s[at])
	if !ok {
		return 0, 0, ErrForm
	}
	x := int(s[at] - b.mark)
	low, high := b.low, b.high
	for _, c := range []byte(s[at+1 : min(at+b.size, len(s))]) {
		if c < low || c > high {
			return 0, 0, ErrForm
		}
		x = x*64 + int(c-0x80)
		low, high = 0x80, 0xbf
	}
	if len(s)-at < b.size {
		return 0, 0, ErrShort
	}
	return x, b.size, api.OK
}

// begin returns what forms with a first byte have in common, or that there are none.
func begin(c byte) (beginning, bool) {
	for _, b := range beginnings {
		if b.first <= c && c <= b.last {
			return b, true
		}
	}
	return beginning{}, false
}

// points yields the code points of a string, each with the offset behind its form, up to where the string is not good.
func points(s string) iter.Seq2[int, int] {
	return func(yield func(int, int) bool) {
		at := 0
	reading:
		for {
			x, n, e := Read(s, at)
			switch {
			case e != api.OK:
				break reading
			case !yield(at+n, x):
				return
			}
			at += n
		}
	}
}

// Valid reports whether a string is valid.
func Valid(s string) bool {
	_, e := Check(s)
	return e == api.OK
}

// Check returns the first offset at which a string is not good.
func Check(s string) (int, api.Errno) {
	at := 0
	for behind := range points(s) {
		at = behind
	}
	if at == len(s) {
		return at, api.OK
	}
	_, _, e := Read(s, at)
	return at, e
}

// checkShort returns the error of a string that is too long or not valid.
func checkShort(s string) api.Errno {
	if len(s) > MaxBytes {
		return api.ErrLong
	}
	_, e := Check(s)
	return e
}

// Points returns the code points of a string.
func Points(s string) ([]int, api.Errno) {
	if e := checkShort(s); e != api.OK {
		return nil, e
	}
	var l []int
	for _, x := range points(s) {
		l = append(l, x)
	}
	return l, api.OK
}

// Text returns the string with some code points.
func Text(l []int) (string, api.Errno) {
	if len(l) > MaxBytes {
		return "", api.ErrLong
	}
	var b []byte
	for _, x := range l {
		var e api.Errno
		if b, e = Append(b, x); e != api.OK {
			return "", e
		}
	}
	return string(b), api.OK
}

// Count returns how many code points a string has.
func Count(s string) (int, api.Errno) {
	if e := checkShort(s); e != api.OK {
		return 0, e
	}
	n := 0
	for range points(s) {
		n++
	}
	return n, api.OK
}

// Cut returns the longest beginning of at most so many bytes.
func Cut(s string, n int) (string, api.Errno) {
	// A number below 0 comes before a string that is not valid, but behind one that is too long.
	if n < 0 && len(s) <= MaxBytes {
		return "", api.ErrArg
	}
	if e := checkShort(s); e != api.OK {
		return "", e
	}
	end := 0
	for behind := range points(s) {
		if behind > n {
			break
		}
		end = behind
	}
	// A part of a string has the memory of the whole, which a result must not share.
	return strings.Clone(s[:end]), api.OK
}

// Pair returns the code point of two surrogates.
func Pair(high, low int) (int, api.Errno) {
	if high < firstHigh || high >= firstLow || low < firstLow || low > lastLow {
		return 0, api.ErrArg
	}
	return firstPair + lowOnes*(high-firstHigh) + low - firstLow, api.OK
}

// Split returns the surrogates of a code point.
func Split(x int) (int, int, api.Errno) {
	if x < firstPair || x > MaxPoint {
		return 0, 0, api.ErrArg
	}
	x -= firstPair
	return firstHigh + x/lowOnes, firstLow + x%lowOnes, api.OK
}
