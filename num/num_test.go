package num

import (
	"cmp"
	"math"
	"math/big"
	"math/rand"
	"strconv"
	"strings"
	"testing"

	"emend/api"
)

const (
	least = math.MinInt64
	most  = math.MaxInt64
)

// wholes are the edges of the whole numbers and some between them.
func wholes() []int64 {
	some := []int64{0, 1, 2, 3, 7, 10, 1000, 1 << 31, 1<<32 + 1, 1<<53 - 1, 1 << 53, 1<<53 + 1, 1<<53 + 2, 1<<53 + 3, 1 << 62, most - 1024, most - 512, most - 511, most - 1, most}
	r := rand.New(rand.NewSource(2))
	for range 40 {
		some = append(some, int64(r.Uint64()>>uint(r.Intn(64))))
	}
	for _, n := range some[:len(some):len(some)] {
		some = append(some, -n)
	}
	return append(some, least, least+1)
}

// floats are the edges of the floats and some between them, a not-a-number last.
func floats() []float64 {
	some := []float64{
		0, 1, 2, 3, 0.1, 0.2, 0.5, 1.5, 1.9, 10, 1.0 / 3,
		math.SmallestNonzeroFloat64, 2 * math.SmallestNonzeroFloat64, 3 * math.SmallestNonzeroFloat64,
		math.Float64frombits(1<<52 - 1), math.Float64frombits(1 << 52), math.Float64frombits(1<<52 + 1),
		math.Nextafter(1, 0), math.Nextafter(1, 2), 1 << 52, 1<<53 - 1, 1 << 53, 1 << 62, 1 << 63,
		math.Nextafter(1<<63, 0), math.Nextafter(1<<63, 1<<64), 1e300, 1e-300, 1e154, 1e-162,
		math.MaxFloat64, math.Nextafter(math.MaxFloat64, 0), math.MaxFloat64 / 2, math.Ldexp(1, 970), math.Ldexp(1, 969), math.Inf(1),
	}
	r := rand.New(rand.NewSource(3))
	for range 60 {
		if f := math.Float64frombits(r.Uint64() >> 1); !math.IsNaN(f) {
			some = append(some, f)
		}
		some = append(some, math.Ldexp(r.Float64(), r.Intn(120)-60))
	}
	for _, f := range some[:len(some):len(some)] {
		some = append(some, math.Copysign(f, -1))
	}
	return append(some, math.NaN())
}

// TestText: P1.2, Text.
func TestText(t *testing.T) {
	for n, want := range map[int64]string{
		0: "0", 7: "7", -7: "-7", 100: "100", -10: "-10",
		most: "9223372036854775807", least: "-9223372036854775808",
	} {
		if s := Text(n); s != want {
			t.Errorf("Text(%d): %q, not %q", n, s, want)
		}
	}
	for _, n := range wholes() {
		if s := Text(n); s != big.NewInt(n).String() {
			t.Errorf("Text(%d): %q", n, s)
		}
	}
}

// TestShow: P1.2, Show.
func TestShow(t *testing.T) {
	for bits, want := range map[uint64]string{
		0:                  "0000000000000000",
		1:                  "0000000000000001",
		1 << 63:            "8000000000000000",
		0x3ff8000000000000: "3ff8000000000000",
		0xbfb999999999999a: "bfb999999999999a",
		0x0123456789abcdef: "0123456789abcdef",
		0x7ff0000000000000: "7ff0000000000000",
		0xfff0000000000000: "fff0000000000000",
		// All not-a-numbers are one.
		0x7ff0000000000001: "7ff8000000000001",
		0x7ff8000000000000: "7ff8000000000001",
		0x7ff8000000000001: "7ff8000000000001",
		0xfff8000000000000: "7ff8000000000001",
		0xffffffffffffffff: "7ff8000000000001",
	} {
		if s := Show(math.Float64frombits(bits)); s != want {
			t.Errorf("Show of the bits %x: %q, not %q", bits, s, want)
		}
	}
	for _, f := range floats() {
		bits, err := strconv.ParseUint(Show(f), 16, 64)
		if err != nil || len(Show(f)) != 16 || bits != math.Float64bits(f) && !math.IsNaN(f) {
			t.Errorf("Show(%g): %q", f, Show(f))
		}
	}
}

// wrapped is the exact whole number modulo 2^64, from -2^63 on.
func wrapped(n *big.Int) int64 {
	low := new(big.Int).And(n, new(big.Int).SetUint64(math.MaxUint64))
	return int64(low.Uint64())
}

// TestWholeNumbers: P1.3: Add, Sub, Mul and Neg, held against exact numbers.
func TestWholeNumbers(t *testing.T) {
	for _, a := range wholes() {
		x := big.NewInt(a)
		if n := Neg(a); n != wrapped(new(big.Int).Neg(x)) {
			t.Errorf("Neg(%d): %d", a, n)
		}
		for _, b := range wholes() {
			y := big.NewInt(b)
			if n := Add(a, b); n != wrapped(new(big.Int).Add(x, y)) {
				t.Errorf("Add(%d, %d): %d", a, b, n)
			}
			if n := Sub(a, b); n != wrapped(new(big.Int).Sub(x, y)) {
				t.Errorf("Sub(%d, %d): %d", a, b, n)
			}
			if n := Mul(a, b); n != wrapped(new(big.Int).Mul(x, y)) {
				t.Errorf("Mul(%d, %d): %d", a, b, n)
			}
		}
	}
	if Add(most, 1) != least || Sub(least, 1) != most || Mul(least, -1) != least || Neg(least) != least {
		t.Error("what is beyond is not counted modulo 2^64")
	}
}

type divCase struct {
	a, b, quotient, rest int64
	ok                   bool
}

// TestDivisionCases: P1.3: Div and Rem, with the chapter's examples.
func TestDivisionCases(t *testing.T) {
	for _, c := range []divCase{
		{7, 2, 3, 1, true},
		{-7, 2, -3, -1, true},
		{7, -2, -3, 1, true},
		{-7, -2, 3, -1, true},
		{0, 5, 0, 0, true},
		{3, 7, 0, 3, true},
		{-3, 7, 0, -3, true},
		{least, -1, least, 0, true},
		{least, 1, least, 0, true},
		{least, least, 1, 0, true},
		{most, least, 0, most, true},
		{least, most, -1, -1, true},
		{1, 0, 0, 0, false},
		{0, 0, 0, 0, false},
		{least, 0, 0, 0, false},
	} {
		if n, ok := Div(c.a, c.b); n != c.quotient || ok != c.ok {
			t.Errorf("Div(%d, %d): %d, %t", c.a, c.b, n, ok)
		}
		if n, ok := Rem(c.a, c.b); n != c.rest || ok != c.ok {
			t.Errorf("Rem(%d, %d): %d, %t", c.a, c.b, n, ok)
		}
	}
}

// TestDivision: P1.3: Div and Rem, held against exact numbers.
func TestDivision(t *testing.T) {
	for _, a := range wholes() {
		for _, b := range wholes() {
			if b == 0 {
				continue
			}
			q, r := new(big.Int).QuoRem(big.NewInt(a), big.NewInt(b), new(big.Int))
			if n, ok := Div(a, b); n != wrapped(q) || !ok {
				t.Errorf("Div(%d, %d): %d, %t", a, b, n, ok)
			}
			if n, ok := Rem(a, b); n != wrapped(r) || !ok {
				t.Errorf("Rem(%d, %d): %d, %t", a, b, n, ok)
			}
		}
	}
}

func isFinite(f float64) bool { return !math.IsNaN(f) && !math.IsInf(f, 0) }

func unlike(a, b float64) bool { return math.Signbit(a) != math.Signbit(b) }

// signed is f with a -, if the sign is to be one.
func signed(f float64, minus bool) float64 {
	if minus {
		return math.Copysign(f, -1)
	}
	return f
}

func exact(f float64) *big.Rat { return new(big.Rat).SetFloat64(f) }

// addWanted is the sum, as P1.4 says it.
func addWanted(a, b float64) float64 {
	aInf, bInf := math.IsInf(a, 0), math.IsInf(b, 0)
	switch {
	case math.IsNaN(a) || math.IsNaN(b) || aInf && bInf && unlike(a, b):
		return math.NaN()
	case aInf:
		return a
	case bInf:
		return b
	}
	sum := rounded(new(big.Rat).Add(exact(a), exact(b)))
	if sum == 0 {
		return signed(0, a == 0 && b == 0 && math.Signbit(a) && math.Signbit(b))
	}
	return sum
}

// mulWanted is the product, as P1.4 says it.
func mulWanted(a, b float64) float64 {
	aInf, bInf := math.IsInf(a, 0), math.IsInf(b, 0)
	switch {
	case math.IsNaN(a) || math.IsNaN(b) || aInf && b == 0 || bInf && a == 0:
		return math.NaN()
	case aInf || bInf:
		return signed(math.Inf(1), unlike(a, b))
	}
	product := rounded(new(big.Rat).Mul(exact(a), exact(b)))
	return signed(math.Abs(product), unlike(a, b))
}

// divWanted is the quotient, as P1.4 says it.
func divWanted(a, b float64) float64 {
	aInf, bInf := math.IsInf(a, 0), math.IsInf(b, 0)
	switch {
	case math.IsNaN(a) || math.IsNaN(b) || aInf && bInf || a == 0 && b == 0:
		return math.NaN()
	case aInf || b == 0:
		return signed(math.Inf(1), unlike(a, b))
	case bInf:
		return signed(0, unlike(a, b))
	}
	quotient := rounded(new(big.Rat).Quo(exact(a), exact(b)))
	return signed(math.Abs(quotient), unlike(a, b))
}

// TestFloats: P1.4: sums, products, quotients and differences, held against exact numbers.
func TestFloats(t *testing.T) {
	all := floats()
	for _, a := range all {
		for _, b := range all {
			if f, want := Show(FAdd(a, b)), Show(addWanted(a, b)); f != want {
				t.Errorf("FAdd(%g, %g): %s, not %s", a, b, f, want)
			}
			if f, want := Show(FSub(a, b)), Show(addWanted(a, signed(math.Abs(b), !math.Signbit(b)))); f != want {
				t.Errorf("FSub(%g, %g): %s, not %s", a, b, f, want)
			}
			if f, want := Show(FMul(a, b)), Show(mulWanted(a, b)); f != want {
				t.Errorf("FMul(%g, %g): %s, not %s", a, b, f, want)
			}
			if f, want := Show(FDiv(a, b)), Show(divWanted(a, b)); f != want {
				t.Errorf("FDiv(%g, %g): %s, not %s", a, b, f, want)
			}
		}
	}
}

// TestFloatCases: P1.4: the chapter's examples, zeros and infinities.
func TestFloatCases(t *testing.T) {
	inf, zero := math.Inf(1), 0.0
	minus := math.Copysign(0, -1)
	for _, c := range []struct {
		name string
		f    float64
		want string
	}{
		{"0.1 + 0.2", FAdd(0.1, 0.2), "3fd3333333333334"},
		{"1 / 0", FDiv(1, zero), "7ff0000000000000"},
		{"1 / -0", FDiv(1, minus), "fff0000000000000"},
		{"-1 / 0", FDiv(-1, zero), "fff0000000000000"},
		{"0 / 0", FDiv(zero, zero), "7ff8000000000001"},
		{"-1 * 0", FMul(-1, zero), "8000000000000000"},
		{"0 + -0", FAdd(zero, minus), "0000000000000000"},
		{"-0 + -0", FAdd(minus, minus), "8000000000000000"},
		{"-0 - 0", FSub(minus, zero), "8000000000000000"},
		{"0 - 0", FSub(zero, zero), "0000000000000000"},
		{"inf - inf", FSub(inf, inf), "7ff8000000000001"},
		{"inf + inf", FAdd(inf, inf), "7ff0000000000000"},
		{"inf * 0", FMul(inf, zero), "7ff8000000000001"},
		{"-inf * 2", FMul(-inf, 2), "fff0000000000000"},
		{"inf / inf", FDiv(inf, inf), "7ff8000000000001"},
		{"inf / -0", FDiv(inf, minus), "fff0000000000000"},
		{"-2 / inf", FDiv(-2, inf), "8000000000000000"},
		{"most + most", FAdd(math.MaxFloat64, math.MaxFloat64), "7ff0000000000000"},
		{"least / 2", FDiv(math.SmallestNonzeroFloat64, 2), "0000000000000000"},
		{"least * -0.5", FMul(math.SmallestNonzeroFloat64, -0.5), "8000000000000000"},
	} {
		if s := Show(c.f); s != c.want {
			t.Errorf("%s: %s, not %s", c.name, s, c.want)
		}
	}
}

// TestFNeg: P1.4: just the sign is another.
func TestFNeg(t *testing.T) {
	for _, f := range floats() {
		want := Show(math.Float64frombits(math.Float64bits(f) ^ 1<<63))
		if s := Show(FNeg(f)); s != want {
			t.Errorf("FNeg(%g): %s, not %s", f, s, want)
		}
	}
}

// TestProductRoundsByItself: P1.4: a product is rounded ahead of the sum that takes it.
func TestProductRoundsByItself(t *testing.T) {
	for _, a := range floats() {
		product := rounded(new(big.Rat).Mul(exactOrOne(a), exactOrOne(a)))
		if math.IsInf(product, 0) || !isFinite(a) {
			continue
		}
		if rest := FAdd(FMul(a, a), -product); rest != 0 {
			t.Errorf("%g by itself leaves %g beside its rounded product", a, rest)
		}
	}
}

func exactOrOne(f float64) *big.Rat {
	if !isFinite(f) {
		return big.NewRat(1, 1)
	}
	return exact(f)
}

// compared is how a stands to b, no not-a-numbers, by exact numbers.
func compared(a, b float64) int {
	if isFinite(a) && isFinite(b) {
		return exact(a).Cmp(exact(b))
	}
	rank := func(f float64) int {
		switch {
		case math.IsInf(f, -1):
			return -1
		case math.IsInf(f, 1):
			return 1
		}
		return 0
	}
	return cmp.Compare(rank(a), rank(b))
}

// TestCompare: P1.5 and P1.8: FLess and FEqual; just one is less, or they are equal.
func TestCompare(t *testing.T) {
	for _, a := range floats() {
		for _, b := range floats() {
			less, equal := FLess(a, b), FEqual(a, b)
			if math.IsNaN(a) || math.IsNaN(b) {
				if less || equal {
					t.Errorf("%g and %g: %t, %t", a, b, less, equal)
				}
				continue
			}
			c := compared(a, b)
			if less != (c < 0) || equal != (c == 0) {
				t.Errorf("%g and %g: %t, %t", a, b, less, equal)
			}
			if count(less, equal, FLess(b, a)) != 1 {
				t.Errorf("%g and %g: not just one is less, nor are they equal", a, b)
			}
		}
	}
	minus := math.Copysign(0, -1)
	if !FEqual(0, minus) || FLess(minus, 0) || FLess(0, minus) {
		t.Error("zeros are not alike")
	}
}

// count is how many of them hold.
func count(all ...bool) int {
	n := 0
	for _, is := range all {
		if is {
			n++
		}
	}
	return n
}

// TestToFloat: P1.6, ToFloat, and P1.8: it never turns order about.
func TestToFloat(t *testing.T) {
	for n, want := range map[int64]string{
		0: "0000000000000000", 1: "3ff0000000000000", -1: "bff0000000000000",
		most: "43e0000000000000", least: "c3e0000000000000",
		1<<53 + 1: "4340000000000000", 1<<53 + 3: "4340000000000002", -(1<<53 + 1): "c340000000000000",
	} {
		if s := Show(ToFloat(n)); s != want {
			t.Errorf("ToFloat(%d): %s, not %s", n, s, want)
		}
	}
	for _, a := range wholes() {
		if f := ToFloat(a); Show(f) != Show(rounded(new(big.Rat).SetInt64(a))) {
			t.Errorf("ToFloat(%d): %s", a, Show(f))
		}
		for _, b := range wholes() {
			if a < b && FLess(ToFloat(b), ToFloat(a)) {
				t.Errorf("ToFloat turns %d and %d about", a, b)
			}
		}
	}
}

// intWanted is what stands ahead of a float's point, as P1.6 says it.
func intWanted(f float64) int64 {
	switch {
	case math.IsNaN(f):
		return 0
	case math.IsInf(f, 1):
		return most
	case math.IsInf(f, -1):
		return least
	}
	r := exact(f)
	whole := new(big.Int).Quo(r.Num(), r.Denom())
	if whole.IsInt64() {
		return whole.Int64()
	}
	if whole.Sign() > 0 {
		return most
	}
	return least
}

// TestToInt: P1.6, ToInt, and P1.8: to 2^53 it leads back.
func TestToInt(t *testing.T) {
	for _, f := range floats() {
		if n := ToInt(f); n != intWanted(f) {
			t.Errorf("ToInt(%g): %d, not %d", f, n, intWanted(f))
		}
	}
	for _, c := range []struct {
		f float64
		n int64
	}{
		{1e300, most}, {-1e300, least}, {-1.9, -1}, {1.9, 1}, {-0.9, 0}, {math.NaN(), 0},
		{math.Inf(1), most}, {math.Inf(-1), least}, {1 << 63, most}, {-(1 << 63), least},
		{math.Nextafter(1<<63, 0), most - 1023}, {math.Nextafter(-(1 << 63), 0), least + 1024},
		{math.Nextafter(-(1 << 63), math.Inf(-1)), least},
	} {
		if n := ToInt(c.f); n != c.n {
			t.Errorf("ToInt(%g): %d, not %d", c.f, n, c.n)
		}
	}
	for _, n := range wholes() {
		if n >= -(1<<53) && n <= 1<<53 && ToInt(ToFloat(n)) != n {
			t.Errorf("%d: ToInt leads to %d", n, ToInt(ToFloat(n)))
		}
	}
}

// TestWholeLaws: P1.7.
func TestWholeLaws(t *testing.T) {
	all := wholes()
	for _, a := range all {
		n, e := Int(Text(a))
		if a >= 0 && (n != a || e != api.OK) || a < 0 && (n != 0 || e != api.ErrForm) {
			t.Errorf("Int of Text of %d: %d, %d", a, n, e)
		}
		if a < 0 && !strings.HasPrefix(Text(a), "-") {
			t.Errorf("Text(%d): %q", a, Text(a))
		}
		if Add(a, 0) != a || Mul(a, 1) != a || Mul(a, 0) != 0 || Add(a, Neg(a)) != 0 {
			t.Errorf("%d: 0 and 1 change it", a)
		}
		for _, b := range all {
			checkDivisionLaws(t, a, b)
			if Add(a, b) != Add(b, a) || Mul(a, b) != Mul(b, a) || Sub(a, b) != Add(a, Neg(b)) || Add(Sub(a, b), b) != a {
				t.Errorf("%d and %d: sums, products and differences do not go about so", a, b)
			}
			for _, c := range all[:20] {
				if Add(Add(a, b), c) != Add(a, Add(b, c)) || Mul(Mul(a, b), c) != Mul(a, Mul(b, c)) || Mul(a, Add(b, c)) != Add(Mul(a, b), Mul(a, c)) {
					t.Errorf("%d, %d and %d: sums and products do not go about so", a, b, c)
				}
			}
		}
	}
}

func checkDivisionLaws(t *testing.T, a, b int64) {
	if b == 0 {
		return
	}
	q, _ := Div(a, b)
	r, _ := Rem(a, b)
	if Add(Mul(b, q), r) != a {
		t.Errorf("%d is not %d times %d and %d", a, b, q, r)
	}
	if big.NewInt(r).CmpAbs(big.NewInt(b)) >= 0 {
		t.Errorf("Rem(%d, %d): %d is not nearer to 0", a, b, r)
	}
	if r != 0 && (r < 0) != (a < 0) {
		t.Errorf("Rem(%d, %d): %d has another sign", a, b, r)
	}
}

// TestFloatLaws: P1.8: FAdd and FMul do not ask for order; a float less itself.
func TestFloatLaws(t *testing.T) {
	all := floats()
	for _, a := range all {
		want := "0000000000000000"
		if !isFinite(a) {
			want = "7ff8000000000001"
		}
		if s := Show(FSub(a, a)); s != want {
			t.Errorf("%g less itself: %s", a, s)
		}
		for _, b := range all {
			if Show(FAdd(a, b)) != Show(FAdd(b, a)) || Show(FMul(a, b)) != Show(FMul(b, a)) {
				t.Errorf("%g and %g: the order counts", a, b)
			}
		}
	}
}
