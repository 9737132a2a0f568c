package tests

import (
	"slices"
	"sort"
	"strings"
	"testing"

	"loop.example/g03013/impl"
)

// oneByte is a string of just that byte; string(b) would write a rune above 127 as two.
func oneByte(b int) string {
	return string([]byte{byte(b)})
}

// shortStrings are all strings of at most size bytes out of those of alphabet.
func shortStrings(alphabet string, size int) []string {
	all := []string{""}
	last := all
	for range size {
		longer := []string{}
		for _, s := range last {
			for i := range len(alphabet) {
				longer = append(longer, s+alphabet[i:i+1])
			}
		}
		all = append(all, longer...)
		last = longer
	}
	return all
}

// everyByte is a string of all 256 bytes.
func everyByte() string {
	all := []byte{}
	for b := range 256 {
		all = append(all, byte(b))
	}
	return string(all)
}

func wantName(t *testing.T, s string, want bool) {
	t.Helper()
	if got := impl.IsName(s); got != want {
		t.Errorf("IsName(%.60q) = %t", s, got)
	}
}

func wantText(t *testing.T, s string, want bool) {
	t.Helper()
	if got := impl.IsText(s); got != want {
		t.Errorf("IsText(%.60q) = %t", s, got)
	}
}

func wantUnquoted(t *testing.T, s string, want string) {
	t.Helper()
	if got, ok := impl.UnquoteText(s); !ok || got != want {
		t.Errorf("UnquoteText(%.60q) = %.60q, %t, want %.60q, true", s, got, ok, want)
	}
}

func wantNoQuotedText(t *testing.T, s string) {
	t.Helper()
	if got, ok := impl.UnquoteText(s); ok || got != "" {
		t.Errorf("UnquoteText(%.60q) = %.60q, %t, want \"\", false", s, got, ok)
	}
}

func wantSorted(t *testing.T, l []string, want []string) {
	t.Helper()
	before := slices.Clone(l)
	if got := impl.SortTexts(l); !slices.Equal(got, want) {
		t.Errorf("SortTexts(%q) = %q, want %q", before, got, want)
	}
	if !slices.Equal(l, before) {
		t.Errorf("SortTexts changed its argument from %q to %q", before, l)
	}
}

func TestLimitsOfNamesAndTexts(t *testing.T) {
	if impl.MaxName != 16 || impl.MaxText != 40 {
		t.Error(impl.MaxName, impl.MaxText)
	}
}

func TestNamesThatAreNames(t *testing.T) {
	for _, s := range []string{
		"a", "z", "m", "aa", "az", "a0", "a9", "z5", "a-b", "a-1", "a--b", "a-b-c", "a1b2",
		"user", "level", "x2y", "or", "true",
		strings.Repeat("a", impl.MaxName-1),
		strings.Repeat("z", impl.MaxName),
		"a" + strings.Repeat("9", impl.MaxName-1),
		"a" + strings.Repeat("-", impl.MaxName-2) + "0",
	} {
		wantName(t, s, true)
	}
}

func TestTextsThatAreNoNames(t *testing.T) {
	for _, s := range []string{
		"", "-", "--", "-a", "a-", "-a-", "a--", "a1-", "0", "9", "1a", "0-a", "42",
		"A", "Z", "Ab", "aB", "a_b", "a.b", "a b", " a", "a ", "a\n", "a\x00", "\x00a",
		"\u00e4", "a\u00e4", "a\xff", "\xffa", "\"a\"", "a/b", "a:b",
		strings.Repeat("a", impl.MaxName+1),
		strings.Repeat("a", impl.MaxName) + "-",
		strings.Repeat("a", impl.MaxName-1) + "-",
		"-" + strings.Repeat("a", impl.MaxName-1),
		strings.Repeat("a", 5000),
	} {
		wantName(t, s, false)
	}
}

func TestBytesOfNames(t *testing.T) {
	for b := range 256 {
		s := oneByte(b)
		letter := b >= 'a' && b <= 'z'
		digit := b >= '0' && b <= '9'
		wantName(t, s, letter)
		wantName(t, s+"a", letter)
		wantName(t, "a"+s, letter || digit)
		wantName(t, "a"+s+"a", letter || digit || b == '-')
		wantName(t, strings.Repeat("a", impl.MaxName-1)+s, letter || digit)
		wantName(t, strings.Repeat("a", impl.MaxName)+s, false)
	}
}

func TestBytesOfTexts(t *testing.T) {
	for b := range 256 {
		s := oneByte(b)
		inRange := b >= 32 && b <= 126
		wantText(t, s, inRange)
		wantText(t, s+"a", inRange)
		wantText(t, "a"+s, inRange)
		wantText(t, "a"+s+"a", inRange)
		wantText(t, strings.Repeat(s, impl.MaxText), inRange)
		wantText(t, strings.Repeat("a", impl.MaxText-1)+s, inRange)
		wantText(t, strings.Repeat("a", impl.MaxText)+s, false)
	}
}

func TestLengthsOfTexts(t *testing.T) {
	wantText(t, "", true)
	for size := range 3 * impl.MaxText {
		wantText(t, strings.Repeat("x", size), size <= impl.MaxText)
	}
	wantText(t, "a b \"c\" \\ ~ !", true)
	wantText(t, strings.Repeat("x", 5000), false)
	// The limit counts bytes, also where two of them make one letter.
	wantText(t, "\u00e4", false)
	wantText(t, strings.Repeat("\u00e4", impl.MaxText/2), false)
}

func TestQuoteText(t *testing.T) {
	for s, want := range map[string]string{
		"":                 `""`,
		"a":                `"a"`,
		"a b":              `"a b"`,
		`"`:                `"\""`,
		`\`:                `"\\"`,
		`\\`:               `"\\\\"`,
		`""`:               `"\"\""`,
		`\"`:               `"\\\""`,
		`"\`:               `"\"\\"`,
		`a"b\c`:            `"a\"b\\c"`,
		`"a"`:              `"\"a\""`,
		`\n`:               `"\\n"`,
		"\n":               "\"\n\"",
		"\x00\x7f\xff":     "\"\x00\x7f\xff\"",
		"\u00e4\U0001f600": "\"\u00e4\U0001f600\"",
		"'`":               "\"'`\"",
	} {
		if got := impl.QuoteText(s); got != want {
			t.Errorf("QuoteText(%q) = %q, want %q", s, got, want)
		}
		wantUnquoted(t, want, s)
	}
}

func TestTextsAreReadFromWhatIsQuoted(t *testing.T) {
	for _, s := range shortStrings("\"\\na \xff", 5) {
		wantUnquoted(t, impl.QuoteText(s), s)
	}
	for _, s := range []string{
		everyByte(),
		everyByte() + everyByte(),
		strings.Repeat("x", impl.MaxText),
		strings.Repeat("x", impl.MaxText+1),
		strings.Repeat(`"`, 5000),
		strings.Repeat(`\`, 5001),
		strings.Repeat(`\"`, 5000),
	} {
		wantUnquoted(t, impl.QuoteText(s), s)
		wantUnquoted(t, impl.QuoteText(impl.QuoteText(s)), impl.QuoteText(s))
	}
}

func TestEveryByteIsQuoted(t *testing.T) {
	for b := range 256 {
		s := oneByte(b)
		want := `"` + s + `"`
		if b == '"' || b == '\\' {
			want = `"\` + s + `"`
		}
		if got := impl.QuoteText(s); got != want {
			t.Errorf("QuoteText(%q) = %q, want %q", s, got, want)
		}
		wantUnquoted(t, want, s)
	}
}

// Each text has one quoted form, so that whatever is read must be just that.
func TestOnlyQuotedTextsAreRead(t *testing.T) {
	read := 0
	for _, s := range shortStrings("\"\\na", 7) {
		text, ok := impl.UnquoteText(s)
		if ok && impl.QuoteText(text) != s {
			t.Errorf("UnquoteText(%q) = %q, true, but that is quoted as %q", s, text, impl.QuoteText(text))
		}
		if !ok && text != "" {
			t.Errorf("UnquoteText(%q) = %q, false", s, text)
		}
		if ok {
			read++
		}
	}
	// Between the quotes stand 0 to 5 bytes: with 2 plain bytes and 2 escaped
	// ones there are f(n) = 2*f(n-1) + 2*f(n-2) rows of n bytes.
	if want := 1 + 2 + 6 + 16 + 44 + 120; read != want {
		t.Errorf("%d strings are read, want %d", read, want)
	}
}

func TestTextsThatAreNoQuotedTexts(t *testing.T) {
	for _, s := range []string{
		"", "a", "abc", `\`, `\"`, `\\`, `\""`,
		`"`, `"a`, `a"`, `"abc`, `"a b`, `"\"`, `"\\`, `"\\\"`, `"a\"`, `"a\\\"`, `"\`, `"a\`, `"\\\`,
		`"a"b`, `"a" `, `"a"b"`, `"a""`, `"""`, `""a`, `"" `, `""""`, `"a""b"`, `"a"\`, `""\`, `"a"` + "\n", `""` + "\x00",
		` "a"`, ` ""`, `a"b"`, `'a'`, "`a`", `'a"`, `"a'`,
		`"\n"`, `"\t"`, `"\a"`, `"\0"`, `"\x41"`, `"\'"`, `"\ "`, `"a\b"`, `"\\\n"`, "\"\\\n\"", "\"\\\x00\"", "\"\\\xff\"",
		"\u201ca\u201d",
		`"` + strings.Repeat("x", 5000), strings.Repeat(`"`, 5000), `"` + strings.Repeat(`\`, 5000), `"` + strings.Repeat(`\`, 4999) + `"`,
	} {
		wantNoQuotedText(t, s)
	}
}

func TestAFullQuotedTextEndsAtItsLastByte(t *testing.T) {
	for _, s := range shortStrings("\"\\a", 4) {
		quoted := impl.QuoteText(s)
		for size := range len(quoted) {
			wantNoQuotedText(t, quoted[:size])
		}
		for b := range 256 {
			wantNoQuotedText(t, quoted+oneByte(b))
			wantNoQuotedText(t, oneByte(b)+quoted)
		}
	}
}

func TestOnlyTwoBytesAreEscaped(t *testing.T) {
	for b := range 256 {
		s := oneByte(b)
		if b == '"' || b == '\\' {
			wantUnquoted(t, `"a\`+s+`b"`, "a"+s+"b")
			continue
		}
		wantNoQuotedText(t, `"a\`+s+`b"`)
		wantUnquoted(t, `"a`+s+`b"`, "a"+s+"b")
	}
}

func TestSortTexts(t *testing.T) {
	wantSorted(t, nil, nil)
	wantSorted(t, []string{}, []string{})
	wantSorted(t, []string{"a"}, []string{"a"})
	wantSorted(t, []string{""}, []string{""})
	wantSorted(t, []string{"b", "a"}, []string{"a", "b"})
	wantSorted(t, []string{"a", "b", "c"}, []string{"a", "b", "c"})
	wantSorted(t, []string{"c", "b", "a"}, []string{"a", "b", "c"})
	wantSorted(t, []string{"b", "", "a", "b"}, []string{"", "a", "b", "b"})
	wantSorted(t, []string{"x", "x", "x"}, []string{"x", "x", "x"})
	wantSorted(t, []string{"a", "", "a", ""}, []string{"", "", "a", "a"})
	wantSorted(t, []string{"abc", "ab", "a", "b", "abd"}, []string{"a", "ab", "abc", "abd", "b"})
	wantSorted(t, []string{"a0", "a-", "a", "a\x00"}, []string{"a", "a\x00", "a-", "a0"})
	wantSorted(t, []string{"10", "9", "1", "-1"}, []string{"-1", "1", "10", "9"})
	wantSorted(t, []string{"a", "B", "~", " ", "_"}, []string{" ", "B", "_", "a", "~"})
	wantSorted(t, []string{"\xff", "\x80", "\x7f", "\u00e4", "\x00"}, []string{"\x00", "\x7f", "\x80", "\u00e4", "\xff"})
}

func TestSortTextsOrdersEveryByte(t *testing.T) {
	falling, rising := []string{}, []string{}
	for b := range 256 {
		falling = append(falling, oneByte(255-b))
		rising = append(rising, oneByte(b))
	}
	wantSorted(t, falling, rising)
	wantSorted(t, rising, rising)
}

func TestSortTextsOfManyTexts(t *testing.T) {
	l := []string{}
	n := 1
	for range 3000 {
		n = n * 75 % 65537
		l = append(l, strings.Repeat("ab", n%3)+oneByte(n)+oneByte(n/256))
	}
	l = append(l, l...)
	want := slices.Clone(l)
	sort.Strings(want)
	wantSorted(t, l, want)
}

func TestSortTextsSharesNoMemory(t *testing.T) {
	spare := []string{"c", "b", "a", "kept"}
	l := spare[:3]
	sorted := impl.SortTexts(l)
	sorted[0] = "changed"
	_ = append(sorted, "more")
	if !slices.Equal(spare, []string{"c", "b", "a", "kept"}) {
		t.Errorf("SortTexts shares memory with its argument: %q", spare)
	}
	again := impl.SortTexts(l)
	if !slices.Equal(again, []string{"a", "b", "c"}) {
		t.Errorf("SortTexts shares memory with an earlier result: %q", again)
	}
	single := []string{"a"}
	impl.SortTexts(single)[0] = "changed"
	if single[0] != "a" {
		t.Error("SortTexts returns its argument where there is nothing to sort")
	}
}
