// Package num is layer 1: see shared/doc/01-num.md.
package num

import (
	"math"
	"strconv"
	"strings"

	"mews/api"
)

// Parse tells the number of which a text is the decimal.
func Parse(s string) (int64, bool) {
	digits, negative := strings.CutPrefix(s, "-")
	if digits == "0" {
		return 0, !negative
	}
	n, ok := negated(digits)
	if negative || !ok {
		return n, ok
	}
	return Sub(0, n)
}

// negated reads digits as the number with a sign ahead of them: -2^63 has no counterpart above 0, so only this way round has room for all.
func negated(digits string) (int64, bool) {
	if digits == "" || digits[0] == '0' {
		return 0, false
	}
	var n int64
	for i := range len(digits) {
		c := digits[i]
		if c < '0' || c > '9' {
			return 0, false
		}
		digit := int64(c - '0')
		// The division rounds towards 0, so n is not below the quotient just if there is room for the digit.
		if n < (math.MinInt64+digit)/10 {
			return 0, false
		}
		n = n*10 - digit
	}
	return n, true
}

// Text is a number's decimal.
func Text(n int64) string { return strconv.FormatInt(n, 10) }

// Len tells how many bytes a number's decimal has.
func Len(n int64) int { return len(Text(n)) }

// Add adds two numbers; false: there is no room.
func Add(a, b int64) (int64, bool) {
	if b > 0 && a > math.MaxInt64-b || b < 0 && a < math.MinInt64-b {
		return 0, false
	}
	return a + b, true
}

// Sub takes a number away; false: there is no room.
func Sub(a, b int64) (int64, bool) {
	if b < 0 && a > math.MaxInt64+b || b > 0 && a < math.MinInt64+b {
		return 0, false
	}
	return a - b, true
}

// Read tells the number of a text, from low to high.
func Read(s string, low, high int64) (int64, api.Errno) {
	n, ok := Parse(s)
	if !ok {
		return 0, api.ErrNum
	}
	if n < low || n > high {
		return 0, api.ErrRange
	}
	return n, api.OK
}

// Clip is a place in something of a size; from its end on, if it is below 0.
func Clip(n, size int64) int64 {
	if size < 1 {
		return 0
	}
	if n < 0 {
		return max(n+size, 0)
	}
	return min(n, size)
}
