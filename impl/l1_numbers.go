package impl

// NumTop is the greatest number that is told.
const NumTop = 999999

// foldTop is the greatest amount of a number that may be negative.
const foldTop = 499999

// digitBase is the base of the digits; a byte that is not below it has another one behind it.
const digitBase = 128

// digits are the bytes of a number; those that it does not have are 0.
type digits [3]byte

// digitsOf returns the bytes of a number from 0 to NumTop, and how many it has.
func digitsOf(n int) (digits, int) {
	var d digits
	last := 0
	for n >= digitBase {
		d[last] = byte(n%digitBase + digitBase)
		n /= digitBase
		last++
	}
	d[last] = byte(n)
	return d, last + 1
}

// digitsAhead returns the digits at the beginning of bytes, how many they are, and whether they come to an end.
func digitsAhead(s string) (digits, int, bool) {
	var d digits
	for i := 0; i < len(s) && i < len(d); i++ {
		if s[i] < digitBase {
			copy(d[:], s[:i+1])
			return d, i + 1, true
		}
	}
	return digits{}, 0, false
}

// numberOf returns the number of digits, which may be more than NumTop.
func numberOf(d digits) int {
	n := 0
	for i := len(d) - 1; i >= 0; i-- {
		n = n*digitBase + int(d[i]%digitBase)
	}
	return n
}

// isTold reports whether a number is one that has bytes.
func isTold(n int) bool {
	return n >= 0 && n <= NumTop
}

// NumPut returns the bytes of a number, and true.
func NumPut(n int) (string, bool) {
	if !isTold(n) {
		return "", false
	}
	d, size := digitsOf(n)
	return string(d[:size]), true
}

// NumGet returns the number at the beginning of bytes, the bytes behind it, and true.
func NumGet(s string) (int, string, bool) {
	d, size, ok := digitsAhead(s)
	if !ok {
		return 0, "", false
	}
	n := numberOf(d)
	if !isTold(n) {
		return 0, "", false
	}
	// A needless last digit 0 does not change the number, only its bytes.
	if told, _ := digitsOf(n); told != d {
		return 0, "", false
	}
	return n, s[size:], true
}

// NumSize returns how many bytes a number has, or 0 for other numbers.
func NumSize(n int) int {
	if !isTold(n) {
		return 0
	}
	_, size := digitsOf(n)
	return size
}

// FoldNum returns the number that tells one that may be negative, from -499999 to 499999.
func FoldNum(n int) (int, bool) {
	if n < -foldTop || n > foldTop {
		return 0, false
	}
	if n < 0 {
		return -2*n - 1, true
	}
	return 2 * n, true
}

// OpenNum returns the number of which FoldNum is a number, and true.
func OpenNum(n int) (int, bool) {
	if n < 0 || n > 2*foldTop {
		return 0, false
	}
	if n%2 == 1 {
		return -(n + 1) / 2, true
	}
	return n / 2, true
}
