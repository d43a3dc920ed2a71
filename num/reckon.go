package num

// operation is what is done to two numbers.
type operation int

const (
	sum operation = iota
	difference
	product
	quotient
)

// reckon does an operation to two numbers of either kind. No quotient of a whole number by 0 may be asked of it.
func reckon[N int64 | float64](op operation, a, b N) N {
	switch op {
	case sum:
		return a + b
	case difference:
		return a - b
	case product:
		return a * b
	}
	return a / b
}
