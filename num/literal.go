package num

// mostExponent is how many digits an exponent has at most.
const mostExponent = 3

// isWhole tells whether s is a whole literal.
func isWhole(s string) bool {
	return s != "" && pastWhole(s) == len(s)
}

// isFloat tells whether s is a float literal, but for its length.
func isFloat(s string) bool {
	point := pastWhole(s)
	if point == 0 || point == len(s) || s[point] != '.' {
		return false
	}
	end := pastDigits(s, point+1)
	if end == point+1 {
		return false
	}
	return end == len(s) || isExponent(s[end:])
}

// isExponent tells whether s, which is not empty, is what may stand behind a float literal's last decimal place.
func isExponent(s string) bool {
	if s[0] != 'e' {
		return false
	}
	from := 1
	if len(s) > from && (s[from] == '+' || s[from] == '-') {
		from++
	}
	end := pastDigits(s, from)
	return end == len(s) && end > from && end-from <= mostExponent
}

// pastWhole tells where the whole literal ends that s begins with: at 0, if its digits are none.
func pastWhole(s string) int {
	end := pastDigits(s, 0)
	if end > 1 && s[0] == '0' {
		return 0
	}
	return end
}

// pastDigits tells where the digits end that stand in s from a place on.
func pastDigits(s string, from int) int {
	at := from
look:
	for at < len(s) {
		switch s[at] {
		case '0', '1', '2', '3', '4', '5', '6', '7', '8', '9':
			at++
		default:
			break look
		}
	}
	return at
}
