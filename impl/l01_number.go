package impl

const MaxNumber = 1000000000

func FormatInt(n int) string {
	size := magnitude(n)
	digits := formatDigits(size, countDigits(size))
	if n < 0 {
		return "-" + digits
	}
	return digits
}

func ParseInt(s string) (int, bool) {
	n, ok := ReadInt(s)
	if !ok || FormatInt(n) != s {
		return 0, false
	}
	return n, true
}

func ReadInt(s string) (int, bool) {
	size, ok := readDigits(withoutSign(s))
	if !ok {
		return 0, false
	}
	if s[0] == '-' {
		return -size, true
	}
	return size, true
}

func Min(a int, b int) int {
	if a < b {
		return a
	}
	return b
}

func Max(a int, b int) int {
	if a > b {
		return a
	}
	return b
}

// magnitude returns n without its sign. It is unsigned because the least int
// has no positive counterpart among the ints.
func magnitude(n int) uint64 {
	if n < 0 {
		return -uint64(n)
	}
	return uint64(n)
}

func countDigits(size uint64) int {
	count := 1
	for size >= 10 {
		size /= 10
		count++
	}
	return count
}

func formatDigits(size uint64, count int) string {
	digits := make([]byte, count)
	for i := range count {
		digits[count-1-i] = '0' + byte(size%10)
		size /= 10
	}
	return string(digits)
}

func withoutSign(s string) string {
	if s != "" && (s[0] == '-' || s[0] == '+') {
		return s[1:]
	}
	return s
}

func readDigits(s string) (int, bool) {
	if s == "" {
		return 0, false
	}
	size := 0
	for i := range len(s) {
		if s[i] < '0' || s[i] > '9' {
			return 0, false
		}
		size = size*10 + int(s[i]-'0')
		// Stopping here keeps long rows of digits from wrapping around into the range.
		if size > MaxNumber {
			return 0, false
		}
	}
	return size, true
}
