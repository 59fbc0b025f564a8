// Package dec is layer 1: decimal numbers, as whole millionths: see DOC.md and doc/01-dec.md.
package dec

import (
	"math"
	"math/bits"

	"auklet/api"
)

// places is how many digits a number has behind the point.
const places = 6

// Add is the sum of a and b.
func Add(a, b int64) (int64, api.Errno) {
	if b > 0 && a > math.MaxInt64-b || b < 0 && a < math.MinInt64-b {
		return 0, api.ErrOver
	}
	return a + b, api.OK
}

// Sub is a less b.
func Sub(a, b int64) (int64, api.Errno) {
	if b < 0 && a > math.MaxInt64+b || b > 0 && a < math.MinInt64+b {
		return 0, api.ErrOver
	}
	return a - b, api.OK
}

// Mul is the product of a and b, cut off towards 0.
func Mul(a, b int64) (int64, api.Errno) {
	return scale(size(a), size(b), api.One, (a < 0) != (b < 0))
}

// Div is the quotient of a by b, cut off towards 0.
func Div(a, b int64) (int64, api.Errno) {
	if b == 0 {
		return 0, api.ErrZero
	}
	return scale(size(a), api.One, size(b), (a < 0) != (b < 0))
}

// Mod is what is left of a when b is taken from it as often as it goes, towards 0.
func Mod(a, b int64) (int64, api.Errno) {
	if b == 0 {
		return 0, api.ErrZero
	}
	// Both are millionths, so the remainder of the integers is that of the numbers.
	return a % b, api.OK
}

// Neg is minus a.
func Neg(a int64) (int64, api.Errno) { return Sub(0, a) }

// Int is the whole part of a, towards 0.
func Int(a int64) int64 { return a - a%api.One }

// Whole is the number n, of n ones.
func Whole(n int64) (int64, api.Errno) {
	if n > math.MaxInt64/api.One || n < math.MinInt64/api.One {
		return 0, api.ErrOver
	}
	return n * api.One, api.OK
}

// Parse is the number at the beginning of s, and the place behind it.
func Parse(s string) (int64, int, api.Errno) {
	at := 0
	for at < len(s) && isBlank(s[at]) {
		at++
	}
	below := at < len(s) && s[at] == '-'
	if below || at < len(s) && s[at] == '+' {
		at++
	}
	whole := digits(s[at:])
	at += len(whole)
	part := ""
	if at < len(s) && s[at] == '.' {
		part = digits(s[at+1:])
		at += 1 + len(part)
	}
	if len(whole)+len(part) == 0 {
		return 0, 0, api.OK
	}
	n, e := signed(millionths(whole, part), below)
	return n, at, e
}

// Show is a as a text that Parse reads as a.
func Show(a int64) string {
	var room [1 + 13 + 1 + places]byte
	at := len(room)
	put := func(c byte) {
		at--
		room[at] = c
	}
	whole, part := size(a)/api.One, size(a)%api.One
	if part != 0 {
		left := places
		for ; part%10 == 0; left-- {
			part /= 10
		}
		for ; left > 0; left-- {
			put('0' + byte(part%10))
			part /= 10
		}
		put('.')
	}
	put('0' + byte(whole%10))
	for whole /= 10; whole > 0; whole /= 10 {
		put('0' + byte(whole%10))
	}
	if a < 0 {
		put('-')
	}
	return string(room[at:])
}

// size is how far a is from 0: of the least int64 this is no int64, so that it is reckoned without a sign.
func size(a int64) uint64 {
	if a < 0 {
		return -uint64(a)
	}
	return uint64(a)
}

// signed is the number that is n from 0, below it or not.
func signed(n uint64, below bool) (int64, api.Errno) {
	most := uint64(math.MaxInt64)
	if below {
		most++
	}
	if n > most {
		return 0, api.ErrOver
	}
	if below {
		return int64(-n), api.OK
	}
	return int64(n), api.OK
}

// scale is x times y by z, cut off, below 0 or not; the product has up to 128 bits.
func scale(x, y, z uint64, below bool) (int64, api.Errno) {
	high, low := bits.Mul64(x, y)
	if high >= z { // the quotient would have more than 64 bits, for which Div64 panics
		return 0, api.ErrOver
	}
	quotient, _ := bits.Div64(high, low, z)
	return signed(quotient, below)
}

func isBlank(c byte) bool { return c == ' ' || c == '\t' || c == '\n' }

// digits are those with which s begins.
func digits(s string) string {
	n := 0
	for n < len(s) && '0' <= s[n] && s[n] <= '9' {
		n++
	}
	return s[:n]
}

// millionths reads the digits ahead of a point and behind it; what is below a millionth is cut off.
func millionths(whole, part string) uint64 {
	n := uint64(0)
	for i := range len(whole) {
		n = push(n, whole[i])
	}
	for i := range places {
		if i < len(part) {
			n = push(n, part[i])
		} else {
			n = push(n, '0')
		}
	}
	return n
}

// push puts a digit behind n. What grows too great stays the greatest there is, which no number's size is, so that signed refuses it.
func push(n uint64, digit byte) uint64 {
	if n > math.MaxUint64/10-1 {
		return math.MaxUint64
	}
	return n*10 + uint64(digit-'0')
}
