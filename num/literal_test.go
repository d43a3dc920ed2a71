package num

import (
	"math"
	"math/big"
	"math/rand"
	"regexp"
	"strconv"
	"strings"
	"testing"

	"emend/api"
)

type intCase struct {
	s string
	n int64
	e api.Errno
}

// TestIntLiterals: P1.1, Int, with the chapter's examples.
func TestIntLiterals(t *testing.T) {
	for _, c := range []intCase{
		{"0", 0, api.OK},
		{"7", 7, api.OK},
		{"10", 10, api.OK},
		{"1234567890", 1234567890, api.OK},
		{"9223372036854775806", math.MaxInt64 - 1, api.OK},
		{"9223372036854775807", math.MaxInt64, api.OK},
		{"9223372036854775808", 0, api.ErrLong},
		{"9223372036854775810", 0, api.ErrLong},
		{"10000000000000000000", 0, api.ErrLong},
		{"18446744073709551616", 0, api.ErrLong},
		{"18446744073709551617", 0, api.ErrLong},
		{strings.Repeat("9", 5000), 0, api.ErrLong},
		{strings.Repeat("9", 5000) + "x", 0, api.ErrForm},
		{strings.Repeat("0", 5000), 0, api.ErrForm},
		{"", 0, api.ErrForm},
		{"007", 0, api.ErrForm},
		{"00", 0, api.ErrForm},
		{"-1", 0, api.ErrForm},
		{"-9223372036854775808", 0, api.ErrForm},
		{"+1", 0, api.ErrForm},
		{" 1", 0, api.ErrForm},
		{"1 ", 0, api.ErrForm},
		{"1\n", 0, api.ErrForm},
		{"1_0", 0, api.ErrForm},
		{"0x1f", 0, api.ErrForm},
		{"1.0", 0, api.ErrForm},
		{"1e3", 0, api.ErrForm},
		{"/", 0, api.ErrForm},
		{":", 0, api.ErrForm},
		{"1\x00", 0, api.ErrForm},
		{"\xff", 0, api.ErrForm},
		{"\u0663", 0, api.ErrForm},
		{"\uff11", 0, api.ErrForm},
	} {
		if n, e := Int(c.s); n != c.n || e != c.e {
			t.Errorf("Int(%.40q): %d, %d, not %d, %d", c.s, n, e, c.n, c.e)
		}
	}
}

type floatCase struct {
	s, shown string
	e        api.Errno
}

// TestFloatLiterals: P1.1, Float, with the chapter's examples.
func TestFloatLiterals(t *testing.T) {
	const zero = "0000000000000000"
	const most = "7fefffffffffffff"
	for _, c := range []floatCase{
		{"0.1", "3fb999999999999a", api.OK},
		{"1.5", "3ff8000000000000", api.OK},
		{"0.0", zero, api.OK},
		{"0.0e999", zero, api.OK},
		{"0.000e-999", zero, api.OK},
		{"1.0e0", "3ff0000000000000", api.OK},
		{"1.0e00", "3ff0000000000000", api.OK},
		{"1.0e000", "3ff0000000000000", api.OK},
		{"1.0e+001", "4024000000000000", api.OK},
		{"10.0e-01", "3ff0000000000000", api.OK},
		// Ties go to the even one, and the last decimal place still counts.
		{"9007199254740993.0", "4340000000000000", api.OK},
		{"9007199254740995.0", "4340000000000002", api.OK},
		{"9007199254740993.000000000000000000000000000000000000000001", "4340000000000001", api.OK},
		{"9007199254740992.999999999999999999999999999999999999999999", "4340000000000000", api.OK},
		// The greatest float, and the bound from which on all is infinity.
		{"1.7976931348623157e308", most, api.OK},
		{"1.797693134862315807e308", most, api.OK},
		{"1.797693134862315808e308", zero, api.ErrLong},
		{"1.7976931348623159e308", zero, api.ErrLong},
		{"1.0e999", zero, api.ErrLong},
		// The least floats, and the bound up to which all is zero.
		{"4.9e-324", "0000000000000001", api.OK},
		{"2.47032822920623272e-324", zero, api.OK},
		{"2.47032822920623273e-324", "0000000000000001", api.OK},
		{"2.2250738585072014e-308", "0010000000000000", api.OK},
		{"2.2250738585072009e-308", "000fffffffffffff", api.OK},
		{"1.0e-999", zero, api.OK},
		// Length.
		{"1." + strings.Repeat("0", 58), "3ff0000000000000", api.OK},
		{"1." + strings.Repeat("0", 59), zero, api.ErrLong},
		{strings.Repeat("x", 60), zero, api.ErrForm},
		{strings.Repeat("x", 61), zero, api.ErrLong},
		// Form.
		{"", zero, api.ErrForm},
		{"1", zero, api.ErrForm},
		{"1.", zero, api.ErrForm},
		{".5", zero, api.ErrForm},
		{".", zero, api.ErrForm},
		{"1e5", zero, api.ErrForm},
		{"01.5", zero, api.ErrForm},
		{"00.5", zero, api.ErrForm},
		{"1.e5", zero, api.ErrForm},
		{"1.5e", zero, api.ErrForm},
		{"1.5e+", zero, api.ErrForm},
		{"1.5e+-1", zero, api.ErrForm},
		{"1.5e0001", zero, api.ErrForm},
		{"1.5e-1000", zero, api.ErrForm},
		{"1.5e1.0", zero, api.ErrForm},
		{"1.5E1", zero, api.ErrForm},
		{"1.5.5", zero, api.ErrForm},
		{"1,5", zero, api.ErrForm},
		{"-1.5", zero, api.ErrForm},
		{"+1.5", zero, api.ErrForm},
		{"1_0.5", zero, api.ErrForm},
		{"0x1.8p1", zero, api.ErrForm},
		{"Inf", zero, api.ErrForm},
		{"NaN", zero, api.ErrForm},
		{" 1.5", zero, api.ErrForm},
		{"1.5 ", zero, api.ErrForm},
		{"1.5\n", zero, api.ErrForm},
		{"1.5\x00", zero, api.ErrForm},
		{"1.\u0665", zero, api.ErrForm},
	} {
		f, e := Float(c.s)
		if Show(f) != c.shown || e != c.e {
			t.Errorf("Float(%q): %s, %d, not %s, %d", c.s, Show(f), e, c.shown, c.e)
		}
	}
}

// forEachText calls f with every text of up to most of the letters.
func forEachText(letters string, most int, f func(s string)) {
	var grow func(s []byte)
	grow = func(s []byte) {
		f(string(s))
		if len(s) == most {
			return
		}
		for i := range len(letters) {
			grow(append(s, letters[i]))
		}
	}
	grow(make([]byte, 0, most))
}

// TestForms: P1.1: of all short texts, just those of the two forms are literals.
func TestForms(t *testing.T) {
	whole := regexp.MustCompile(`^(0|[1-9][0-9]*)$`)
	float := regexp.MustCompile(`^(0|[1-9][0-9]*)\.[0-9]+(e[+-]?[0-9]{1,3})?$`)
	formError := func(ok bool) api.Errno {
		if ok {
			return api.OK
		}
		return api.ErrForm
	}
	forEachText("09.e+-", 7, func(s string) {
		if _, e := Int(s); e != formError(whole.MatchString(s)) {
			t.Fatalf("Int(%q): error %d", s, e)
		}
		_, e := Float(s)
		if e == api.ErrLong {
			e = api.OK // the form is right, the value too great
		}
		if e != formError(float.MatchString(s)) {
			t.Fatalf("Float(%q): error %d", s, e)
		}
	})
	for c := range 256 {
		isDigit := c >= '0' && c <= '9'
		if _, e := Int(string([]byte{'1', byte(c)})); e != formError(isDigit) {
			t.Errorf("Int of 1 and the byte %d: error %d", c, e)
		}
		isEnd := isDigit // behind 1.5 no other byte may end the literal
		if _, e := Float(string([]byte{'1', '.', '5', byte(c)})); e != formError(isEnd) {
			t.Errorf("Float of 1.5 and the byte %d: error %d", c, e)
		}
	}
}

// rounded is the exact number as a float, by the library of exact numbers.
func rounded(r *big.Rat) float64 {
	f, _ := r.Float64()
	return f
}

// randomLiteral is a float literal of at most 60 bytes.
func randomLiteral(r *rand.Rand) string {
	digits := func(n int) string {
		b := make([]byte, n)
		for i := range b {
			b[i] = byte('0' + r.Intn(10))
		}
		return string(b)
	}
	s := strconv.Itoa(r.Intn(10))
	if r.Intn(2) == 0 {
		s = strconv.Itoa(1+r.Intn(9)) + digits(r.Intn(24))
	}
	s += "." + digits(1+r.Intn(30))
	switch r.Intn(4) {
	case 0:
		s += "e" + strconv.Itoa(r.Intn(320))
	case 1:
		s += "e-" + strconv.Itoa(r.Intn(360))
	case 2:
		s += "e+0" + strconv.Itoa(r.Intn(30))
	}
	return s
}

func checkRounded(t *testing.T, s string) {
	exact, ok := new(big.Rat).SetString(s)
	if !ok {
		t.Fatalf("%q is no number", s)
	}
	want := rounded(exact)
	f, e := Float(s)
	if math.IsInf(want, 0) {
		if f != 0 || e != api.ErrLong {
			t.Errorf("Float(%q): %s, %d, not ErrLong", s, Show(f), e)
		}
		return
	}
	if e != api.OK || math.Float64bits(f) != math.Float64bits(want) {
		t.Errorf("Float(%q): %s, %d, not %s", s, Show(f), e, Show(want))
	}
}

// TestFloatRounds: P1.1: literals are rounded to the nearest float.
func TestFloatRounds(t *testing.T) {
	r := rand.New(rand.NewSource(1))
	for range 20000 {
		checkRounded(t, randomLiteral(r))
	}
	for range 20000 { // halfway between two floats, and a little beside it
		m := int64(1)<<53 | r.Int63n(1<<53)
		half := strconv.FormatInt(m, 10)
		if len(half) > 16 {
			checkRounded(t, half[:16]+"."+half[16:]+"e0")
		}
		checkRounded(t, half+".0")
		checkRounded(t, half+".0000000000000000000001")
		checkRounded(t, strconv.FormatInt(m-1, 10)+".9999999999999999999999")
	}
}
