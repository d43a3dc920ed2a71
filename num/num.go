// Package num is layer 1: the numbers of MiniGo, whole ones of 64 bits and floats.
package num

import (
	"math"
	"strconv"
	"strings"

	"emend/api"
)

// Every not-a-number counts as the same one, so all of them are shown alike.
const shownNaN = "7ff8000000000001"

// shownDigits is how many hex digits the 64 bits of a float have.
const shownDigits = 16

// Int reads a whole literal.
func Int(s string) (int64, api.Errno) {
	if !isWhole(s) {
		return 0, api.ErrForm
	}
	n, err := strconv.ParseInt(s, 10, 64)
	if err != nil { // the form is right, so it is the value that is too great
		return 0, api.ErrLong
	}
	return n, api.OK
}

// Float reads a float literal.
func Float(s string) (float64, api.Errno) {
	if len(s) > api.MaxLiteral {
		return 0, api.ErrLong
	}
	if !isFloat(s) {
		return 0, api.ErrForm
	}
	f, err := strconv.ParseFloat(s, 64)
	if err != nil { // the form is right, so it was rounded to infinity
		return 0, api.ErrLong
	}
	return f, api.OK
}

// Text is a whole number in decimal digits.
func Text(n int64) string { return strconv.FormatInt(n, 10) }

// Show is a float's bits in hex digits.
func Show(f float64) string {
	if math.IsNaN(f) {
		return shownNaN
	}
	digits := strconv.FormatUint(math.Float64bits(f), 16)
	return strings.Repeat("0", shownDigits-len(digits)) + digits
}

// Add is the sum, modulo 2^64.
func Add(a, b int64) int64 { return reckon(sum, a, b) }

// Sub is the difference, modulo 2^64.
func Sub(a, b int64) int64 { return reckon(difference, a, b) }

// Mul is the product, modulo 2^64.
func Mul(a, b int64) int64 { return reckon(product, a, b) }

// Neg is the number of the other sign, modulo 2^64.
func Neg(a int64) int64 { return Sub(0, a) }

// Div is the quotient, rounded toward 0; there is none by 0.
func Div(a, b int64) (int64, bool) {
	if b == 0 {
		return 0, false
	}
	return reckon(quotient, a, b), true
}

// Rem is what Div leaves; there is none by 0.
func Rem(a, b int64) (int64, bool) {
	whole, ok := Div(a, b)
	if !ok {
		return 0, false
	}
	return Sub(a, Mul(b, whole)), true
}

// FAdd is the sum, rounded.
func FAdd(a, b float64) float64 { return reckon(sum, a, b) }

// FSub is the sum of a and b with the other sign, rounded.
func FSub(a, b float64) float64 { return FAdd(a, FNeg(b)) }

// FMul is the product, rounded. Some machines fuse a product with the sum that takes it and round just once:
// the conversion makes the product be rounded by itself.
func FMul(a, b float64) float64 { return float64(reckon(product, a, b)) }

// FDiv is the quotient, rounded.
func FDiv(a, b float64) float64 { return reckon(quotient, a, b) }

// FNeg is the float of the other sign; a zero has one, too, so it is no difference from 0.
func FNeg(a float64) float64 { return -a }

// FLess tells whether a is below b.
func FLess(a, b float64) bool { return a < b }

// FEqual tells whether a and b are the same number.
func FEqual(a, b float64) bool { return a == b }

// ToFloat is a whole number, rounded to a float.
func ToFloat(n int64) float64 { return float64(n) }

// ToInt is what stands ahead of a float's point. The language leaves open what a conversion of a float
// that no whole number matches answers, so these are asked for ahead of it.
func ToInt(f float64) int64 {
	const beyond = 1 << 63 // a float, as 2^63 - 1 is not
	switch {
	case math.IsNaN(f):
		return 0
	case f >= beyond:
		return math.MaxInt64
	case f < -beyond:
		return math.MinInt64
	}
	return int64(f)
}
