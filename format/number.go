package format

import (
	"strconv"
	"strings"

	"auklet/api"
	"auklet/text"
)

// places is how many digits a number has behind the point.
const places = 6

// Fixed is n with so many digits behind the point, rounded to the nearest, halves away from 0.
func Fixed(n int64, digits int) string {
	digits = within(digits)
	left, dropped := distance(n), uint64(0)
	for range places - digits {
		left, dropped = left/10, left%10
	}
	// The last digit that was dropped alone tells which is nearer: from 5 on it is half, or more.
	if dropped >= 5 {
		left++
	}
	behind := min(digits, places)
	s := Pad(strconv.FormatUint(left, 10), behind+1, false, true)
	whole, part := s[:len(s)-behind], s[len(s)-behind:]
	if n < 0 {
		whole = "-" + whole
	}
	if digits == 0 {
		return whole
	}
	return whole + "." + part + strings.Repeat("0", digits-behind)
}

// Whole is the digits of n's whole part in base 8, 10 or 16: of one below 0 without its sign in base 10, else as it is modulo 2^64.
func Whole(n int64, base int, great bool) string {
	n /= api.One
	count := uint64(n)
	switch base {
	case 8, 16:
	case 10:
		count = distance(n)
	default:
		return ""
	}
	s := strconv.FormatUint(count, base)
	if great {
		return text.Upper(s)
	}
	return s
}

// Pad is s, and what is missing till there are so many characters: blanks, or noughts behind a sign.
func Pad(s string, wide int, left bool, zero bool) string {
	missing := max(within(wide)-text.Len(s), 0)
	switch {
	case left:
		return s + strings.Repeat(" ", missing)
	case zero:
		begin := digitsAt(s)
		return s[:begin] + strings.Repeat("0", missing) + s[begin:]
	}
	return strings.Repeat(" ", missing) + s
}

// within is n, but no less than 0, and no more than MaxWidth.
func within(n int) int { return min(max(n, 0), api.MaxWidth) }

// distance is how far n is from 0: of the least int64 this is no int64, so that it is reckoned without a sign.
func distance(n int64) uint64 {
	if n < 0 {
		return -uint64(n)
	}
	return uint64(n)
}

// digitsAt is the place behind the sign with which s begins, if it does.
func digitsAt(s string) int {
	if s != "" && strings.IndexByte("-+ ", s[0]) >= 0 {
		return 1
	}
	return 0
}
