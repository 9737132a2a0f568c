package tests

import (
	"math"
	"strconv"
	"strings"
	"testing"

	"loop.example/g03013/impl"
)

// someNumbers are numbers of the system, the edges of its range among them.
func someNumbers() []int {
	numbers := []int{0, impl.MaxNumber, -impl.MaxNumber, impl.MaxNumber - 1, 1 - impl.MaxNumber}
	for power := 1; power < impl.MaxNumber; power *= 10 {
		for _, n := range []int{power - 1, power, power + 1, 7 * power, 1234567890 % (10 * power)} {
			numbers = append(numbers, n, -n)
		}
	}
	return numbers
}

// notNumbers are texts that neither ParseInt nor ReadInt accepts.
func notNumbers() []string {
	return []string{
		"", "-", "+", "--", "++", "+-", "-+",
		"--1", "++1", "+-1", "-+1", "1-", "1+", "1-1",
		" ", " 1", "1 ", "- 1", "+ 1", "1 2", "\t1", "1\n", "1\r",
		"a", "a1", "1a", "1a2", "0x1", "0b1", "0o7", "1e3", "1.0", ".5", "1,000", "1_000",
		"\x00", "1\x00", "/1", ":1", "1/", "1:", "\xff", "\u0661", "\uff11", "\u22121", "\u00bd",
		"one", "nan", "inf", "-inf", "true",
	}
}

// beyondNumbers are digits, with or without a sign, that stand for no number of the system.
func beyondNumbers() []string {
	digits := []string{
		"1000000001", "1000000010", "2000000000", "9999999999", "10000000000",
		"2147483647", "2147483648", "4294967296", "4294967297",
		"9223372036854775807", "9223372036854775808",
		"18446744073709551615", "18446744073709551616", "18446744073709551617",
		"340282366920938463463374607431768211457",
		"1" + strings.Repeat("0", 64), "1" + strings.Repeat("0", 5000), "1" + strings.Repeat("0", 5000) + "7",
		strings.Repeat("9", 5000),
	}
	texts := []string{}
	for _, d := range digits {
		texts = append(texts, d, "-"+d, "+"+d)
		texts = append(texts, "000"+d, "-000"+d, "+000"+d)
	}
	return texts
}

func wantNumber(t *testing.T, name string, read func(string) (int, bool), s string, want int) {
	t.Helper()
	if n, ok := read(s); !ok || n != want {
		t.Errorf("%s(%.40q) = %d, %t, want %d, true", name, s, n, ok, want)
	}
}

func wantNoNumber(t *testing.T, name string, read func(string) (int, bool), s string) {
	t.Helper()
	if n, ok := read(s); ok || n != 0 {
		t.Errorf("%s(%.40q) = %d, %t, want 0, false", name, s, n, ok)
	}
}

func TestFormatInt(t *testing.T) {
	for n, want := range map[int]string{
		0:                   "0",
		1:                   "1",
		-1:                  "-1",
		9:                   "9",
		10:                  "10",
		-10:                 "-10",
		42:                  "42",
		-305:                "-305",
		1000:                "1000",
		impl.MaxNumber:      "1000000000",
		-impl.MaxNumber:     "-1000000000",
		impl.MaxNumber + 1:  "1000000001",
		-impl.MaxNumber - 1: "-1000000001",
		math.MaxInt:         "9223372036854775807",
		math.MinInt + 1:     "-9223372036854775807",
		math.MinInt:         "-9223372036854775808",
	} {
		if got := impl.FormatInt(n); got != want {
			t.Errorf("FormatInt(%d) = %q, want %q", n, got, want)
		}
	}
}

func TestFormatIntIsDecimal(t *testing.T) {
	for n := -11000; n <= 11000; n++ {
		if got := impl.FormatInt(n); got != strconv.Itoa(n) {
			t.Fatalf("FormatInt(%d) = %q", n, got)
		}
	}
	for shift := range 63 {
		for _, n := range []int{1 << shift, 1<<shift - 1, -1 << shift, math.MaxInt >> shift, math.MinInt >> shift} {
			if got := impl.FormatInt(n); got != strconv.Itoa(n) {
				t.Errorf("FormatInt(%d) = %q", n, got)
			}
		}
	}
}

func TestNumbersAreReadFromWhatIsWritten(t *testing.T) {
	for _, n := range someNumbers() {
		wantNumber(t, "ParseInt", impl.ParseInt, impl.FormatInt(n), n)
		wantNumber(t, "ReadInt", impl.ReadInt, impl.FormatInt(n), n)
	}
	for n := -11000; n <= 11000; n++ {
		wantNumber(t, "ParseInt", impl.ParseInt, impl.FormatInt(n), n)
		wantNumber(t, "ReadInt", impl.ReadInt, impl.FormatInt(n), n)
	}
}

func TestWrittenNumbersBeyondTheRangeAreNotRead(t *testing.T) {
	for _, n := range []int{
		impl.MaxNumber + 1, -impl.MaxNumber - 1, 10 * impl.MaxNumber, -10 * impl.MaxNumber,
		math.MaxInt32, math.MinInt32, math.MaxInt, math.MinInt, math.MinInt + 1,
	} {
		wantNoNumber(t, "ParseInt", impl.ParseInt, impl.FormatInt(n))
		wantNoNumber(t, "ReadInt", impl.ReadInt, impl.FormatInt(n))
	}
}

func TestReadIntTakesSignsAndLeadingZeros(t *testing.T) {
	for s, want := range map[string]int{
		"+007":                                7,
		"-0":                                  0,
		"+0":                                  0,
		"00":                                  0,
		"-000":                                0,
		"+000":                                0,
		"+1":                                  1,
		"01":                                  1,
		"-01":                                 -1,
		"-0042":                               -42,
		"010":                                 10,
		"08":                                  8,
		"+1000000000":                         impl.MaxNumber,
		"-01000000000":                        -impl.MaxNumber,
		"0001000000000":                       impl.MaxNumber,
		strings.Repeat("0", 5000):             0,
		"-" + strings.Repeat("0", 5000):       0,
		strings.Repeat("0", 5000) + "12":      12,
		"+" + strings.Repeat("0", 5000) + "1": 1,
		"-" + strings.Repeat("0", 5000) + "1000000000": -impl.MaxNumber,
	} {
		wantNumber(t, "ReadInt", impl.ReadInt, s, want)
	}
}

func TestParseIntTakesOnlyTheDecimalForm(t *testing.T) {
	for _, n := range someNumbers() {
		digits := impl.FormatInt(impl.Max(n, -n))
		for _, s := range []string{"+" + digits, "0" + digits, "-0" + digits, "+0" + digits, "00" + digits} {
			wantNoNumber(t, "ParseInt", impl.ParseInt, s)
		}
	}
	for _, s := range []string{"-0", "+0", "00", "-00", strings.Repeat("0", 5000), strings.Repeat("0", 5000) + "7"} {
		wantNoNumber(t, "ParseInt", impl.ParseInt, s)
	}
}

func TestTextsThatAreNoNumbers(t *testing.T) {
	for _, s := range append(notNumbers(), beyondNumbers()...) {
		wantNoNumber(t, "ParseInt", impl.ParseInt, s)
		wantNoNumber(t, "ReadInt", impl.ReadInt, s)
	}
}

func TestOnlyDigitsAreRead(t *testing.T) {
	for b := range 256 {
		s := string([]byte{byte(b)})
		if b >= '0' && b <= '9' {
			wantNumber(t, "ParseInt", impl.ParseInt, s, b-'0')
			wantNumber(t, "ReadInt", impl.ReadInt, s, b-'0')
			wantNumber(t, "ReadInt", impl.ReadInt, "1"+s, 10+b-'0')
			continue
		}
		for _, s := range []string{s, s + s, "1" + s, "1" + s + "1", "-" + s, "+" + s} {
			wantNoNumber(t, "ParseInt", impl.ParseInt, s)
			wantNoNumber(t, "ReadInt", impl.ReadInt, s)
		}
		if b != '-' {
			wantNoNumber(t, "ParseInt", impl.ParseInt, s+"1")
		}
		if b != '-' && b != '+' {
			wantNoNumber(t, "ReadInt", impl.ReadInt, s+"1")
		}
	}
}

func TestMinAndMax(t *testing.T) {
	ordered := []int{math.MinInt, -impl.MaxNumber, -3, -2, -1, 0, 1, 2, 3, impl.MaxNumber, math.MaxInt}
	for i, low := range ordered {
		for _, high := range ordered[i:] {
			if impl.Min(low, high) != low || impl.Min(high, low) != low {
				t.Errorf("Min of %d and %d", low, high)
			}
			if impl.Max(low, high) != high || impl.Max(high, low) != high {
				t.Errorf("Max of %d and %d", low, high)
			}
		}
	}
}

func TestMaxNumber(t *testing.T) {
	if impl.MaxNumber != 1000000000 {
		t.Error(impl.MaxNumber)
	}
}
