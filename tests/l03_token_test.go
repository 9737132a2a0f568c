package tests

import (
	"fmt"
	"regexp"
	"slices"
	"strings"
	"testing"

	"loop.example/g03013/impl"
)

// everyMark are all marks of the document, those of two bytes first.
func everyMark() []string {
	return []string{
		"!=", "<=", ">=", "..",
		"{", "}", ";", "[", "]", "(", ")", "<", ">", "=", "+", "-", "/", "|", ".", ",", "$", ":",
	}
}

func name(s string, at int) impl.Token {
	return impl.Token{Kind: impl.TokName, Text: s, At: at}
}

func number(s string, at int) impl.Token {
	return impl.Token{Kind: impl.TokNumber, Text: s, At: at}
}

func text(s string, at int) impl.Token {
	return impl.Token{Kind: impl.TokText, Text: s, At: at}
}

func mark(s string, at int) impl.Token {
	return impl.Token{Kind: impl.TokMark, Text: s, At: at}
}

// shown is what a failure tells of tokens, of which there may be thousands.
func shown(l []impl.Token) string {
	return fmt.Sprintf("%.400s", fmt.Sprintf("%+v", l))
}

func wantTokens(t *testing.T, s string, want ...impl.Token) {
	t.Helper()
	if l, bad := impl.Lex(s); bad != -1 || !slices.Equal(l, want) {
		t.Errorf("Lex(%.60q) = %s, %d, want %s, -1", s, shown(l), bad, shown(want))
	}
}

func wantNoTokens(t *testing.T, s string, want int) {
	t.Helper()
	if l, bad := impl.Lex(s); bad != want || len(l) != 0 {
		t.Errorf("Lex(%.60q) = %s, %d, want an empty list, %d", s, shown(l), bad, want)
	}
}

func wantJoined(t *testing.T, l []impl.Token, want string) {
	t.Helper()
	before := slices.Clone(l)
	if got := impl.JoinTokens(l); got != want {
		t.Errorf("JoinTokens(%s) = %.400q, want %.400q", shown(before), got, want)
	}
	if !slices.Equal(l, before) {
		t.Errorf("JoinTokens changed its argument from %s to %s", shown(before), shown(l))
	}
}

// withoutPlaces are the tokens with nothing but their kinds and texts, which is
// what joining them keeps.
func withoutPlaces(l []impl.Token) []impl.Token {
	moved := slices.Clone(l)
	for i := range moved {
		moved[i].At = 0
	}
	return moved
}

// wantReadAgain asks for promise 3: what is joined is divided into the same
// tokens, and joining these gives the same string.
func wantReadAgain(t *testing.T, l []impl.Token) {
	t.Helper()
	joined := impl.JoinTokens(l)
	again, bad := impl.Lex(joined)
	if bad != -1 || !slices.Equal(withoutPlaces(again), withoutPlaces(l)) {
		t.Errorf("%s are joined as %.400q and read as %s, %d", shown(l), joined, shown(again), bad)
	}
	if impl.JoinTokens(again) != joined {
		t.Errorf("%.400q is read and joined as %.400q", joined, impl.JoinTokens(again))
	}
	at := 0
	for i, token := range again {
		if token.At != at {
			t.Errorf("token %d of %.400q is at %d, want %d", i, joined, token.At, at)
		}
		at += len(impl.TokenText(token)) + 1
	}
}

func TestKindsOfTokens(t *testing.T) {
	if impl.TokName != 1 || impl.TokNumber != 2 || impl.TokText != 3 || impl.TokMark != 4 {
		t.Error(impl.TokName, impl.TokNumber, impl.TokText, impl.TokMark)
	}
	wantTokens(t, "a", name("a", 0))
	wantTokens(t, "7", number("7", 0))
	wantTokens(t, `"x"`, text("x", 0))
	wantTokens(t, ";", mark(";", 0))
	wantTokens(t, `leaf 12 "a b" {`, name("leaf", 0), number("12", 5), text("a b", 8), mark("{", 14))
	wantTokens(t, `leaf12"a b"{`, name("leaf12", 0), text("a b", 6), mark("{", 11))
	wantTokens(t, "a-1- <= 07 \"x y\"..# note",
		name("a-1", 0), mark("-", 3), mark("<=", 5), number("07", 8), text("x y", 11), mark("..", 16))
}

func TestTextsWithoutTokens(t *testing.T) {
	for _, s := range []string{
		"", " ", "\n", "  \n \n\n", "#", "# a", "#\n", "# a\n", " # a", "\n#a\n", "##", "# a # b", "#a\n#b\n\n #c",
		"#\"", "# \" \\", "#!&\t\xff\x00\n", "#\r\n", strings.Repeat(" ", 5000), strings.Repeat("#", 5000), strings.Repeat("#\n", 5000),
	} {
		wantTokens(t, s)
	}
}

func TestEveryByteAlone(t *testing.T) {
	marks := strings.Join(everyMark()[4:], "")
	for b := range 256 {
		s := oneByte(b)
		switch {
		case b >= 'a' && b <= 'z':
			wantTokens(t, s, name(s, 0))
		case b >= '0' && b <= '9':
			wantTokens(t, s, number(s, 0))
		case strings.Contains(marks, s):
			wantTokens(t, s, mark(s, 0))
			wantTokens(t, "7 "+s+"a", number("7", 0), mark(s, 2), name("a", 3))
		case b == ' ' || b == '\n':
			wantTokens(t, s)
			wantTokens(t, s+s+"a"+s+"7"+s, name("a", 2), number("7", 4))
		case b == '#':
			wantTokens(t, s+"a")
			wantTokens(t, "7"+s+"a", number("7", 0))
		default:
			wantNoTokens(t, s, 0)
			wantNoTokens(t, s+"a", 0)
			wantNoTokens(t, "a"+s, 1)
			wantNoTokens(t, "a 7"+s+" b", 3)
			wantNoTokens(t, "\n# a\n "+s, 6)
		}
	}
}

func TestEveryMark(t *testing.T) {
	if len(everyMark()) != 22 {
		t.Error("there are 4 marks of two bytes and 18 of one")
	}
	for _, m := range everyMark() {
		wantTokens(t, m, mark(m, 0))
		wantTokens(t, " "+m, mark(m, 1))
		wantTokens(t, m+" ", mark(m, 0))
		wantTokens(t, m+"#", mark(m, 0))
		wantTokens(t, "7"+m+"8", number("7", 0), mark(m, 1), number("8", 1+len(m)))
		wantTokens(t, "\"\""+m+"\"\"", text("", 0), mark(m, 2), text("", 2+len(m)))
		for _, after := range everyMark() {
			wantTokens(t, m+" "+after, mark(m, 0), mark(after, len(m)+1))
			wantTokens(t, m+"\n"+after, mark(m, 0), mark(after, len(m)+1))
		}
	}
	wantTokens(t, "{};[]()+-/|,$:",
		mark("{", 0), mark("}", 1), mark(";", 2), mark("[", 3), mark("]", 4), mark("(", 5), mark(")", 6),
		mark("+", 7), mark("-", 8), mark("/", 9), mark("|", 10), mark(",", 11), mark("$", 12), mark(":", 13))
}

func TestMarksThatBeginAlike(t *testing.T) {
	wantTokens(t, "<=", mark("<=", 0))
	wantTokens(t, "<", mark("<", 0))
	wantTokens(t, "a<", name("a", 0), mark("<", 1))
	wantTokens(t, "a>", name("a", 0), mark(">", 1))
	wantTokens(t, "a.", name("a", 0), mark(".", 1))
	wantTokens(t, "a<=", name("a", 0), mark("<=", 1))
	wantTokens(t, "a>=", name("a", 0), mark(">=", 1))
	wantTokens(t, "a..", name("a", 0), mark("..", 1))
	wantTokens(t, "a!=", name("a", 0), mark("!=", 1))
	wantTokens(t, "< =", mark("<", 0), mark("=", 2))
	wantTokens(t, "> =", mark(">", 0), mark("=", 2))
	wantTokens(t, ". .", mark(".", 0), mark(".", 2))
	wantTokens(t, "=<", mark("=", 0), mark("<", 1))
	wantTokens(t, "=>", mark("=", 0), mark(">", 1))
	wantTokens(t, "==", mark("=", 0), mark("=", 1))
	wantTokens(t, "<<", mark("<", 0), mark("<", 1))
	wantTokens(t, ">>", mark(">", 0), mark(">", 1))
	wantTokens(t, "<>", mark("<", 0), mark(">", 1))
	wantTokens(t, "//", mark("/", 0), mark("/", 1))
	wantTokens(t, "::", mark(":", 0), mark(":", 1))
	wantTokens(t, "<==", mark("<=", 0), mark("=", 2))
	wantTokens(t, "<<=", mark("<", 0), mark("<=", 1))
	wantTokens(t, ">>=", mark(">", 0), mark(">=", 1))
	wantTokens(t, "!==", mark("!=", 0), mark("=", 2))
	wantTokens(t, "!=!=", mark("!=", 0), mark("!=", 2))
	wantTokens(t, "=!=", mark("=", 0), mark("!=", 1))
	wantTokens(t, "<!=", mark("<", 0), mark("!=", 1))
	wantTokens(t, "...", mark("..", 0), mark(".", 2))
	wantTokens(t, "....", mark("..", 0), mark("..", 2))
	wantTokens(t, ".....", mark("..", 0), mark("..", 2), mark(".", 4))
	wantTokens(t, "1..3", number("1", 0), mark("..", 1), number("3", 3))
	wantTokens(t, "../../a", mark("..", 0), mark("/", 2), mark("..", 3), mark("/", 5), name("a", 6))
	wantTokens(t, "./a", mark(".", 0), mark("/", 1), name("a", 2))
	wantTokens(t, "1.<=.3", number("1", 0), mark(".", 1), mark("<=", 2), mark(".", 4), number("3", 5))
}

// Only the two-byte marks of the document are read as one, whatever stands side by side.
func TestMarksSideBySide(t *testing.T) {
	marks := everyMark()
	for _, first := range marks[4:] {
		for _, second := range marks[4:] {
			if both := first + second; slices.Contains(marks, both) {
				wantTokens(t, both, mark(both, 0))
				continue
			}
			wantTokens(t, first+second, mark(first, 0), mark(second, 1))
			wantTokens(t, "7"+first+second+"8", number("7", 0), mark(first, 1), mark(second, 2), number("8", 3))
		}
	}
}

func TestAnExclamationMarkAlone(t *testing.T) {
	wantNoTokens(t, "!", 0)
	wantNoTokens(t, "a!", 1)
	wantNoTokens(t, "! =", 0)
	wantNoTokens(t, "!\n=", 0)
	wantNoTokens(t, "!!", 0)
	wantNoTokens(t, "!!=", 0)
	wantNoTokens(t, "!=!", 2)
	wantNoTokens(t, "=!", 1)
	wantNoTokens(t, "a != b ! c", 7)
	wantNoTokens(t, "!a", 0)
	wantNoTokens(t, "!<=", 0)
	wantNoTokens(t, "!#\n=", 0)
}

func TestWhereANameEnds(t *testing.T) {
	wantTokens(t, "a-", name("a", 0), mark("-", 1))
	wantTokens(t, "a--", name("a", 0), mark("-", 1), mark("-", 2))
	wantTokens(t, "a---;", name("a", 0), mark("-", 1), mark("-", 2), mark("-", 3), mark(";", 4))
	wantTokens(t, "a- b", name("a", 0), mark("-", 1), name("b", 3))
	wantTokens(t, "a-- -b", name("a", 0), mark("-", 1), mark("-", 2), mark("-", 4), name("b", 5))
	wantTokens(t, "a-\nb", name("a", 0), mark("-", 1), name("b", 3))
	wantTokens(t, "a-#b", name("a", 0), mark("-", 1))
	wantTokens(t, "a-.", name("a", 0), mark("-", 1), mark(".", 2))
	wantTokens(t, "a-\"b\"", name("a", 0), mark("-", 1), text("b", 2))
	wantTokens(t, "a-b", name("a-b", 0))
	wantTokens(t, "a-1", name("a-1", 0))
	wantTokens(t, "a--b", name("a--b", 0))
	wantTokens(t, "a---9", name("a---9", 0))
	wantTokens(t, "a-b-", name("a-b", 0), mark("-", 3))
	wantTokens(t, "a-b--c-", name("a-b--c", 0), mark("-", 6))
	wantTokens(t, "a-1-2-", name("a-1-2", 0), mark("-", 5))
	wantTokens(t, "a1", name("a1", 0))
	wantTokens(t, "a1b2-", name("a1b2", 0), mark("-", 4))
	wantTokens(t, "a0009", name("a0009", 0))
	wantTokens(t, "az09", name("az09", 0))
	wantTokens(t, "a b", name("a", 0), name("b", 2))
	wantTokens(t, "a.b", name("a", 0), mark(".", 1), name("b", 2))
	wantTokens(t, "a/b:c", name("a", 0), mark("/", 1), name("b", 2), mark(":", 3), name("c", 4))
	wantTokens(t, "a+b-c", name("a", 0), mark("+", 1), name("b-c", 2))
	wantTokens(t, "-a", mark("-", 0), name("a", 1))
	wantTokens(t, "--a-1", mark("-", 0), mark("-", 1), name("a-1", 2))
	wantNoTokens(t, "aB", 1)
	wantNoTokens(t, "a-B", 2)
	wantNoTokens(t, "a_b", 1)
	wantNoTokens(t, "a\u00e4", 1)
	wantNoTokens(t, "a-\xff", 2)
}

func TestLongNames(t *testing.T) {
	for _, size := range []int{impl.MaxName - 1, impl.MaxName, impl.MaxName + 1, 3 * impl.MaxName, 5000} {
		s := strings.Repeat("a", size)
		wantTokens(t, s, name(s, 0))
		wantTokens(t, s+"-", name(s, 0), mark("-", size))
		wantTokens(t, s+"-1 "+s, name(s+"-1", 0), name(s, size+3))
		within := "a" + strings.Repeat("-", size) + "9"
		wantTokens(t, within+"\n", name(within, 0))
	}
}

func TestNumbersAmongTokens(t *testing.T) {
	wantTokens(t, "0", number("0", 0))
	wantTokens(t, "007", number("007", 0))
	wantTokens(t, "1234567890", number("1234567890", 0))
	wantTokens(t, "1 2", number("1", 0), number("2", 2))
	wantTokens(t, "1a", number("1", 0), name("a", 1))
	wantTokens(t, "12a-3b", number("12", 0), name("a-3b", 2))
	wantTokens(t, "1a1", number("1", 0), name("a1", 1))
	wantTokens(t, "1-2", number("1", 0), mark("-", 1), number("2", 2))
	wantTokens(t, "1-a", number("1", 0), mark("-", 1), name("a", 2))
	wantTokens(t, "-1", mark("-", 0), number("1", 1))
	wantTokens(t, "+1", mark("+", 0), number("1", 1))
	wantTokens(t, "--1", mark("-", 0), mark("-", 1), number("1", 2))
	wantTokens(t, "1.5", number("1", 0), mark(".", 1), number("5", 2))
	wantTokens(t, "1\"2\"3", number("1", 0), text("2", 1), number("3", 4))
	wantTokens(t, "0x10", number("0", 0), name("x10", 1))
	wantNoTokens(t, "1_000", 1)
	wantNoTokens(t, "\u0661", 0)
	long := strings.Repeat("90", 2500)
	wantTokens(t, long, number(long, 0))
	wantTokens(t, long+"x", number(long, 0), name("x", 5000))
}

func TestQuotedTextsAmongTokens(t *testing.T) {
	wantTokens(t, `""`, text("", 0))
	wantTokens(t, `"" ""`, text("", 0), text("", 3))
	wantTokens(t, `""""`, text("", 0), text("", 2))
	wantTokens(t, `"a""b"`, text("a", 0), text("b", 3))
	wantTokens(t, `a"b"c`, name("a", 0), text("b", 1), name("c", 4))
	wantTokens(t, `"\""`, text(`"`, 0))
	wantTokens(t, `"\\"`, text(`\`, 0))
	wantTokens(t, `"\\" "a"`, text(`\`, 0), text("a", 5))
	wantTokens(t, `"\\\""x`, text(`\"`, 0), name("x", 6))
	wantTokens(t, `"a\"b\\c"7`, text(`a"b\c`, 0), number("7", 9))
	wantTokens(t, "\"a # b\" c", text("a # b", 0), name("c", 8))
	wantTokens(t, "\"a\nb\"c", text("a\nb", 0), name("c", 5))
	wantTokens(t, "\"#\n#\"#", text("#\n#", 0))
	wantTokens(t, "\"\t\x00\x1f\x7f\x80\xff\u00e4\";", text("\t\x00\x1f\x7f\x80\xff\u00e4", 0), mark(";", 10))
	wantTokens(t, `"  a  "`, text("  a  ", 0))
	wantTokens(t, `"!= & ' "`, text("!= & ' ", 0))
	for b := range 256 {
		s := oneByte(b)
		quoted := impl.QuoteText("x" + s + "y")
		wantTokens(t, " "+quoted+".", text("x"+s+"y", 1), mark(".", 1+len(quoted)))
	}
	long := strings.Repeat(`"\`, 5000)
	wantTokens(t, impl.QuoteText(long)+"a", text(long, 0), name("a", 20002))
}

func TestQuotedTextsThatAreNone(t *testing.T) {
	for _, s := range []string{
		`"`, `"a`, `"a b`, `"\"`, `"\`, `"a\`, `"\\\"`, `"\\\`, "\"a\n", "\"a # b\n", "\"\n", `"a#`,
		`"\n"`, `"\a"`, `"\0"`, `"\ "`, `"a\b"`, `"\#"`, `"\'"`, "\"\\\n\"", "\"\\\x00\"", "\"\\\xff\"",
		`"\a" "b"`, `"\a\""`, `"` + strings.Repeat("a", 5000), `"` + strings.Repeat(`\\`, 2500) + `\a"`,
	} {
		wantNoTokens(t, s, 0)
		wantNoTokens(t, " "+s, 1)
		wantNoTokens(t, "a 7 \"b\""+s, 7)
		wantNoTokens(t, "# x\n"+s, 4)
	}
	wantNoTokens(t, `"a"b"`, 4)
	wantNoTokens(t, `"""`, 2)
	for b := range 256 {
		if b != '"' && b != '\\' {
			wantNoTokens(t, `;"a\`+oneByte(b)+`b"`, 1)
		}
	}
}

func TestBlanksAndRemarks(t *testing.T) {
	wantTokens(t, " a", name("a", 1))
	wantTokens(t, "\na", name("a", 1))
	wantTokens(t, " \n  a \n b  \n", name("a", 4), name("b", 8))
	wantTokens(t, "a ", name("a", 0))
	wantTokens(t, "a\n", name("a", 0))
	wantTokens(t, "a#b", name("a", 0))
	wantTokens(t, "a#b\n", name("a", 0))
	wantTokens(t, "a#b\nc", name("a", 0), name("c", 4))
	wantTokens(t, "a#\nc", name("a", 0), name("c", 3))
	wantTokens(t, "a # b # c\nd", name("a", 0), name("d", 10))
	wantTokens(t, "#a\nb", name("b", 3))
	wantTokens(t, "#a\n#b\n#c\nd#e", name("d", 9))
	wantTokens(t, "#\n\n# \n d", name("d", 7))
	wantTokens(t, "a # \"not a text\nb", name("a", 0), name("b", 16))
	wantTokens(t, "a # & \t ! \\ \r \xff\nb", name("a", 0), name("b", 16))
	wantTokens(t, "<#\n=", mark("<", 0), mark("=", 3))
	wantTokens(t, "1#2\n3", number("1", 0), number("3", 4))
	wantTokens(t, "1\n2", number("1", 0), number("2", 2))
	wantTokens(t, strings.Repeat(" # b\n", 1000)+"a", name("a", 5000))
	wantNoTokens(t, "#a\n&", 3)
	wantNoTokens(t, "#a\n#b\n  & c", 8)
}

func TestOnlySpacesAndNewlinesAreBlanks(t *testing.T) {
	for _, s := range []string{"\t", "\r", "\v", "\f", "\x00", "\u00a0", "\u2003", "\u0085", "\ufeff"} {
		wantNoTokens(t, s, 0)
		wantNoTokens(t, "a"+s+"b", 1)
		wantNoTokens(t, "a "+s+" b", 2)
		wantNoTokens(t, "\n"+s, 1)
	}
	wantNoTokens(t, "a;\r\nb;\r\n", 2)
}

func TestTheFirstBadByteIsTold(t *testing.T) {
	wantNoTokens(t, "a & b", 2)
	wantNoTokens(t, "&", 0)
	wantNoTokens(t, "a & b & \"", 2)
	wantNoTokens(t, "a \" & b", 2)
	wantNoTokens(t, "A", 0)
	wantNoTokens(t, "a B", 2)
	wantNoTokens(t, "leaf x 1..3 @", 12)
	wantNoTokens(t, "a # &\n%", 6)
	wantNoTokens(t, strings.Repeat("a ", 2500)+"?", 5000)
	for i := range 300 {
		wantNoTokens(t, strings.Repeat(" ", i)+"&", i)
		wantNoTokens(t, strings.Repeat(";", i)+"&;", i)
		wantNoTokens(t, strings.Repeat("x", i)+"&x", i)
	}
}

// lexByPatterns divides s by regular expressions, which choose among the
// alternatives of tokenPattern the first one that matches.
func lexByPatterns(s string) ([]impl.Token, int) {
	tokens := []impl.Token{}
	for at := 0; at < len(s); {
		rest := s[at:]
		if blanks := blankPattern.FindString(rest); blanks != "" {
			at += len(blanks)
			continue
		}
		found := tokenPattern.FindStringSubmatch(rest)
		if found == nil {
			return nil, at
		}
		kind := 1
		for found[kind] == "" {
			kind++
		}
		token := impl.Token{Kind: kind, Text: found[0], At: at}
		if kind == impl.TokText {
			token.Text = strings.NewReplacer(`\\`, `\`, `\"`, `"`).Replace(found[0][1 : len(found[0])-1])
		}
		tokens = append(tokens, token)
		at += len(found[0])
	}
	return tokens, -1
}

// The groups of tokenPattern stand in the order of the kinds of tokens.
var (
	blankPattern = regexp.MustCompile(`^(?:[ \n]|#[^\n]*)+`)
	tokenPattern = regexp.MustCompile(`^(?:([a-z](?:[a-z0-9-]*[a-z0-9])?)|([0-9]+)|("(?:[^"\\]|\\["\\])*")|(!=|<=|>=|\.\.|[{};\[\]()<>=+\-/|.,$:]))`)
)

func TestEveryShortTextIsDividedAsPatternsDivideIt(t *testing.T) {
	for _, texts := range [][]string{
		shortStrings("a1- ", 7),
		shortStrings("\"\\a#\n ", 6),
		shortStrings("!<>=.1", 6),
		shortStrings("a1-\"\\#\n.!=\t&", 4),
	} {
		for _, s := range texts {
			want, wantBad := lexByPatterns(s)
			if l, bad := impl.Lex(s); bad != wantBad || !slices.Equal(l, want) {
				t.Fatalf("Lex(%q) = %v, %d, want %v, %d", s, l, bad, want, wantBad)
			}
		}
	}
}

func TestTokensThatAreJoinedAreReadAgain(t *testing.T) {
	read := 0
	for _, s := range append(shortStrings("a1-\"\\# \n.<=", 4), shortStrings("a-1\".", 6)...) {
		if l, bad := impl.Lex(s); bad == -1 {
			wantReadAgain(t, l)
			read++
		}
	}
	if read < 10000 {
		t.Errorf("only %d of the texts are divided", read)
	}
	parts := []impl.Token{
		name("a", 0), name("a-1", 0), name(strings.Repeat("z", 500), 0), number("0", 0), number("007", 0),
		text("", 0), text("a b", 0), text(`"\`, 0), text("# x\n", 0), text(everyByte(), 0),
	}
	for _, m := range everyMark() {
		parts = append(parts, mark(m, 0))
	}
	wantReadAgain(t, parts)
	for _, first := range parts {
		wantReadAgain(t, []impl.Token{first})
		for _, second := range parts {
			wantReadAgain(t, []impl.Token{first, second})
			wantReadAgain(t, []impl.Token{first, second, first})
		}
	}
}

func TestTokenText(t *testing.T) {
	for token, want := range map[impl.Token]string{
		name("a-1", 0):                  "a-1",
		name("", 0):                     "",
		number("007", 3):                "007",
		text("x y", 11):                 `"x y"`,
		text("", 0):                     `""`,
		text(`a"b\c`, -1):               `"a\"b\\c"`,
		text("\n\xff#", 0):              "\"\n\xff#\"",
		mark("<=", 5):                   "<=",
		mark(`"`, 0):                    `"`,
		name(`a"b\c d`, 0):              `a"b\c d`,
		number(`"1"`, 0):                `"1"`,
		{}:                              "",
		{Text: `a"`}:                    `a"`,
		{Kind: 5, Text: `a"`, At: 7}:    `a"`,
		{Kind: -3, Text: `\`, At: -7}:   `\`,
		{Kind: 1 << 40, Text: "\x00\n"}: "\x00\n",
	} {
		if got := impl.TokenText(token); got != want {
			t.Errorf("TokenText(%v) = %q, want %q", token, got, want)
		}
	}
	for _, m := range everyMark() {
		if got := impl.TokenText(mark(m, 1)); got != m {
			t.Errorf("TokenText of the mark %q = %q", m, got)
		}
	}
	for b := range 256 {
		s := oneByte(b)
		if got := impl.TokenText(text(s, 0)); got != impl.QuoteText(s) {
			t.Errorf("TokenText of the text %q = %q", s, got)
		}
		if got := impl.TokenText(mark(s, 0)); got != s {
			t.Errorf("TokenText of %q, which is no text, = %q", s, got)
		}
	}
}

func TestJoinTokens(t *testing.T) {
	wantJoined(t, nil, "")
	wantJoined(t, []impl.Token{}, "")
	wantJoined(t, []impl.Token{name("a", 0)}, "a")
	wantJoined(t, []impl.Token{name("a", 9)}, "a")
	wantJoined(t, []impl.Token{text("", 0)}, `""`)
	wantJoined(t, []impl.Token{{}}, "")
	wantJoined(t, []impl.Token{{}, {}, {}}, "  ")
	wantJoined(t, []impl.Token{name("a", 0), name("b", 1)}, "a b")
	wantJoined(t, []impl.Token{mark(".", 0), mark(".", 1)}, ". .")
	wantJoined(t, []impl.Token{mark("<", 0), mark("=", 1)}, "< =")
	wantJoined(t, []impl.Token{name("a", 0), mark("-", 1), number("1", 2)}, "a - 1")
	wantJoined(t, []impl.Token{number("1", 0), name("a", 1)}, "1 a")
	wantJoined(t, []impl.Token{number("1", 0), number("2", 0), number("3", 0)}, "1 2 3")
	wantJoined(t, []impl.Token{name("b", 8), name("a", 3)}, "b a")
	wantJoined(t, []impl.Token{text("a b", 0), text(`"`, 0), mark(";", 0)}, `"a b" "\"" ;`)
	wantJoined(t, []impl.Token{{Kind: 9, Text: "x y"}, {Text: `"`}}, `x y "`)
	l, want := []impl.Token{}, ""
	for range 5000 {
		l, want = append(l, text("x", 0)), want+` "x"`
	}
	wantJoined(t, l, want[1:])
}

func TestTokensShareNoMemory(t *testing.T) {
	first, _ := impl.Lex("a b")
	second, _ := impl.Lex("a b")
	first[0] = mark("changed", 7)
	_ = append(first[:1], mark("more", 8))
	if !slices.Equal(second, []impl.Token{name("a", 0), name("b", 2)}) {
		t.Errorf("Lex shares memory between its results: %v", second)
	}
	wantTokens(t, "a b", name("a", 0), name("b", 2))
	spare := []impl.Token{text("a", 0), name("b", 1), mark("kept", 2)}
	wantJoined(t, spare[:2], `"a" b`)
	if !slices.Equal(spare, []impl.Token{text("a", 0), name("b", 1), mark("kept", 2)}) {
		t.Errorf("JoinTokens changed the memory behind its argument: %v", spare)
	}
}
