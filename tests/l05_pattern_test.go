package tests

import (
	"fmt"
	"maps"
	"regexp"
	"slices"
	"strings"
	"testing"
	"time"

	"loop.example/g03013/impl"
)

func chars(s string) impl.Pat {
	return impl.Pat{Op: impl.PatChars, Text: s}
}

func seq(kids ...impl.Pat) impl.Pat {
	return impl.Pat{Op: impl.PatSeq, Kids: kids}
}

func alt(kids ...impl.Pat) impl.Pat {
	return impl.Pat{Op: impl.PatAlt, Kids: kids}
}

func star(kids ...impl.Pat) impl.Pat {
	return impl.Pat{Op: impl.PatStar, Kids: kids}
}

func maybe(kids ...impl.Pat) impl.Pat {
	return impl.Pat{Op: impl.PatMaybe, Kids: kids}
}

// plus is what `x+` becomes.
func plus(p impl.Pat) impl.Pat {
	return seq(p, star(p))
}

// bytesFrom are the bytes from lo to hi, in order.
func bytesFrom(lo int, hi int) string {
	s := ""
	for b := lo; b <= hi; b++ {
		s += oneByte(b)
	}
	return s
}

func anyChar() impl.Pat {
	return chars(bytesFrom(32, 126))
}

// nested is p within depth patterns of one kid each.
func nested(op int, depth int, p impl.Pat) impl.Pat {
	for range depth {
		p = impl.Pat{Op: op, Kids: []impl.Pat{p}}
	}
	return p
}

func samePat(a impl.Pat, b impl.Pat) bool {
	return a.Op == b.Op && a.Text == b.Text && slices.EqualFunc(a.Kids, b.Kids, samePat)
}

func shownPat(p impl.Pat) string {
	return fmt.Sprintf("%.300s", fmt.Sprint(p))
}

// wantPat also asks IsPattern, which has to agree.
func wantPat(t *testing.T, s string, want impl.Pat) {
	t.Helper()
	if got, ok := impl.ParsePattern(s); !ok || !samePat(got, want) {
		t.Errorf("ParsePattern(%q) = %s, %t, want %s, true", s, shownPat(got), ok, shownPat(want))
	}
	if !impl.IsPattern(s) {
		t.Errorf("IsPattern(%q) = false", s)
	}
}

func wantNoPattern(t *testing.T, s string) {
	t.Helper()
	if got, ok := impl.ParsePattern(s); ok || !samePat(got, impl.Pat{}) {
		t.Errorf("ParsePattern(%.60q) = %s, %t, want the zero Pat, false", s, shownPat(got), ok)
	}
	if impl.IsPattern(s) {
		t.Errorf("IsPattern(%.60q) = true", s)
	}
	for _, text := range []string{"", "a", s} {
		if impl.MatchText(s, text) {
			t.Errorf("MatchText(%.60q, %.60q) = true, without a pattern", s, text)
		}
	}
}

// patWithSpare is a copy of p with one more kid in the memory behind those of
// each part, which no function may touch.
func patWithSpare(p impl.Pat) impl.Pat {
	kids := []impl.Pat{}
	for _, kid := range p.Kids {
		kids = append(kids, patWithSpare(kid))
	}
	p.Kids = append(kids, chars("spare"))[:len(kids)]
	return p
}

// wantUntouchedPat is for a p that comes from patWithSpare(before).
func wantUntouchedPat(t *testing.T, p impl.Pat, before impl.Pat) {
	t.Helper()
	if p.Op != before.Op || p.Text != before.Text || len(p.Kids) != len(before.Kids) {
		t.Fatalf("MatchPattern changed its argument from %s to %s", shownPat(before), shownPat(p))
	}
	if behind := p.Kids[:len(p.Kids)+1][len(p.Kids)]; !samePat(behind, chars("spare")) {
		t.Fatalf("MatchPattern changed the memory behind kids of %s to %s", shownPat(before), shownPat(behind))
	}
	for i, kid := range p.Kids {
		wantUntouchedPat(t, kid, before.Kids[i])
	}
}

func wantMatch(t *testing.T, p impl.Pat, s string, want bool) {
	t.Helper()
	given := patWithSpare(p)
	if got := impl.MatchPattern(given, s); got != want {
		t.Errorf("MatchPattern(%s, %.60q) = %t", shownPat(p), s, got)
	}
	wantUntouchedPat(t, given, p)
}

// wantJust asks for the texts of up to 4 bytes a, b and c that p has.
func wantJust(t *testing.T, p impl.Pat, texts ...string) {
	t.Helper()
	for _, s := range shortStrings("abc", 4) {
		wantMatch(t, p, s, slices.Contains(texts, s))
	}
}

// wantMatchText gives the texts of the pattern in yes, and others in no.
func wantMatchText(t *testing.T, pattern string, yes []string, no []string) {
	t.Helper()
	for _, s := range yes {
		if !impl.MatchText(pattern, s) {
			t.Errorf("MatchText(%q, %q) = false", pattern, s)
		}
	}
	for _, s := range no {
		if impl.MatchText(pattern, s) {
			t.Errorf("MatchText(%q, %q) = true", pattern, s)
		}
	}
}

// inTime fails if the calls do not return.
func inTime(t *testing.T, name string, calls func()) {
	t.Helper()
	done := make(chan bool)
	go func() {
		defer close(done)
		calls()
	}()
	select {
	case <-done:
	case <-time.After(time.Minute):
		t.Fatalf("%s: no result within a minute", name)
	}
}

// texts are the texts of p of at most the size, found as chapter 5 defines them:
// from those of the kids.
func texts(p impl.Pat, most int) map[string]bool {
	found := map[string]bool{}
	kids := []map[string]bool{}
	for _, kid := range p.Kids {
		kids = append(kids, texts(kid, most))
	}
	switch p.Op {
	case impl.PatChars:
		for i := range len(p.Text) {
			found[p.Text[i:i+1]] = true
		}
	case impl.PatSeq:
		found[""] = true
		for _, kid := range kids {
			found = joined(found, kid, most)
		}
	case impl.PatAlt:
		for _, kid := range kids {
			maps.Copy(found, kid)
		}
	case impl.PatStar:
		found[""] = true
		for size := 0; len(kids) == 1 && size < len(found); {
			size = len(found)
			maps.Copy(found, joined(found, kids[0], most))
		}
	case impl.PatMaybe:
		found[""] = true
		if len(kids) == 1 {
			maps.Copy(found, kids[0])
		}
	}
	return found
}

func joined(a map[string]bool, b map[string]bool, most int) map[string]bool {
	both := map[string]bool{}
	for x := range a {
		for y := range b {
			if len(x)+len(y) <= most {
				both[x+y] = true
			}
		}
	}
	return both
}

// smallPats are patterns of every Op, also of those that are none, with no kid
// or with one and two of these again.
func smallPats() []impl.Pat {
	without := []impl.Pat{chars(""), chars("a"), chars("b"), chars("ba"), seq(), alt(), star(), maybe(), {}, {Op: -1}, {Op: 6, Text: "a"}}
	few := slices.Clone(without)
	for _, a := range without {
		few = append(few, seq(a), alt(a), star(a), maybe(a), impl.Pat{Op: 6, Kids: []impl.Pat{a}})
		for _, b := range without {
			few = append(few, seq(a, b), alt(a, b), star(a, b), maybe(a, b))
		}
	}
	all := slices.Clone(few)
	for i, a := range few {
		all = append(all, seq(a), alt(a), star(a), maybe(a), seq(a, a), seq(a, chars("a")), seq(chars("b"), a), alt(a, chars("b")))
		for j := i % 83; j < len(few); j += 83 {
			all = append(all, seq(a, few[j]), alt(a, few[j]), star(seq(a, few[j])), star(alt(few[j], a)), maybe(seq(star(a), few[j])))
		}
	}
	return all
}

// mixedPats are patterns of several levels; they are the same in each run.
func mixedPats(count int) []impl.Pat {
	state := 1
	next := func(below int) int {
		state = state * 75 % 65537
		return state % below
	}
	pats := []impl.Pat{chars("a"), chars("b"), chars("ab"), seq()}
	pick := func() impl.Pat { return pats[impl.Max(next(len(pats)), next(len(pats)))] }
	for len(pats) < count {
		p := pick()
		switch next(6) {
		case 0, 1:
			p = seq(p, pick())
		case 2:
			p = alt(p, pick())
		case 3:
			p = star(p)
		case 4:
			p = maybe(p)
		case 5:
			p = chars([]string{"a", "b", "ab", "ba", "c"}[next(5)])
		}
		if len(fmt.Sprint(p)) < 400 {
			pats = append(pats, p)
		}
	}
	return pats
}

func TestPatternConstants(t *testing.T) {
	if impl.MaxPattern != 30 {
		t.Error(impl.MaxPattern)
	}
	if ops := []int{impl.PatChars, impl.PatSeq, impl.PatAlt, impl.PatStar, impl.PatMaybe}; !slices.Equal(ops, []int{1, 2, 3, 4, 5}) {
		t.Error(ops)
	}
}

func TestWhatPatternsBecome(t *testing.T) {
	a, b, c := chars("a"), chars("b"), chars("c")
	for s, want := range map[string]impl.Pat{
		// One seq is that seq, one item that item, and no items are a PatSeq.
		"": seq(), "a": a, "7": chars("7"), "-": chars("-"), ".": anyChar(),
		"ab": seq(a, b), "abc": seq(a, b, c), "a-7": seq(a, chars("-"), chars("7")), "..": seq(anyChar(), anyChar()), "a.": seq(a, anyChar()),
		// Alternatives.
		"a|b": alt(a, b), "a|b|c": alt(a, b, c), "ab|c": alt(seq(a, b), c), "a|bc": alt(a, seq(b, c)), "a|a": alt(a, a),
		"|": alt(seq(), seq()), "||": alt(seq(), seq(), seq()), "|a": alt(seq(), a), "a|": alt(a, seq()), "a||b": alt(a, seq(), b), "|a|": alt(seq(), a, seq()),
		"||a": alt(seq(), seq(), a), "a||": alt(a, seq(), seq()),
		// Items.
		"a*": star(a), "a?": maybe(a), "a+": seq(a, star(a)), "-*": star(chars("-")), ".?": maybe(anyChar()), ".+": plus(anyChar()), "7+": plus(chars("7")),
		"ab*": seq(a, star(b)), "a*b": seq(star(a), b), "a+b": seq(plus(a), b), "ab+": seq(a, plus(b)), "ab+c": seq(a, plus(b), c), "a+b+": seq(plus(a), plus(b)),
		"a?b*c+": seq(maybe(a), star(b), plus(c)), "a*|b": alt(star(a), b), "a|b*": alt(a, star(b)), "a+|b?": alt(plus(a), maybe(b)), "aa*": plus(a),
		// Brackets do not show, but what is in them stays together.
		"()": seq(), "(a)": a, "((a))": a, "(())": seq(), "(ab)": seq(a, b), "(a|b)": alt(a, b), "((a|b))": alt(a, b), "(a*)": star(a), "(a+)": plus(a), "(|)": alt(seq(), seq()),
		"(a)b": seq(a, b), "(ab)c": seq(seq(a, b), c), "a(bc)": seq(a, seq(b, c)), "a(b|c)": seq(a, alt(b, c)), "(a|b)c": seq(alt(a, b), c), "a()": seq(a, seq()), "()()": seq(seq(), seq()),
		"(a|b)|c": alt(alt(a, b), c), "a|(b|c)": alt(a, alt(b, c)), "a|()": alt(a, seq()), "(ab)|c": alt(seq(a, b), c), "(a)|(b)": alt(a, b),
		"(ab)*": star(seq(a, b)), "(ab)?": maybe(seq(a, b)), "(ab)+": plus(seq(a, b)), "(a|b)*": star(alt(a, b)), "(a|)+": plus(alt(a, seq())), "(a)*": star(a), "(a)+": plus(a),
		"(a*)*": star(star(a)), "(a?)*": star(maybe(a)), "(a*)?": maybe(star(a)), "(a+)?": maybe(plus(a)), "(a?)+": plus(maybe(a)), "(a+)+": plus(plus(a)), "((a+)+)+": plus(plus(plus(a))),
		"()*": star(seq()), "()?": maybe(seq()), "()+": plus(seq()), "(|)*": star(alt(seq(), seq())), "((a*)*)*": star(star(star(a))),
		// Classes are atoms.
		"[a]": a, "[ab]": chars("ab"), "[a]*": star(a), "[ab]+": plus(chars("ab")), "[ab]?c": seq(maybe(chars("ab")), c), "[a][b]": seq(a, b), "[a]|[bc]": alt(a, chars("bc")), "([a~c])": chars("abc"),
	} {
		wantPat(t, s, want)
	}
}

func TestEveryByteAsAPattern(t *testing.T) {
	for i := range 256 {
		switch s := oneByte(i); {
		case strings.Contains("abcdefghijklmnopqrstuvwxyz0123456789-", s):
			wantPat(t, s, chars(s))
			wantPat(t, s+"*a", seq(star(chars(s)), chars("a")))
		case s == ".":
			wantPat(t, s, anyChar())
		case s == "|":
			wantPat(t, s, alt(seq(), seq()))
		default:
			for _, around := range []string{s, "a" + s + "a", "a|" + s, "(" + s, s + ")", "a" + s + "*"} {
				if s != "(" && s != ")" && s != "*" && s != "+" && s != "?" {
					wantNoPattern(t, around)
				}
			}
			wantNoPattern(t, s)
		}
	}
}

// classChars are the bytes that may stand in a class.
const classChars = "-.0123456789_abcdefghijklmnopqrstuvwxyz"

func TestEveryByteInAClass(t *testing.T) {
	for i := range 256 {
		s := oneByte(i)
		if strings.Contains(classChars, s) {
			wantPat(t, "["+s+"]", chars(s))
			wantPat(t, "["+s+s+"]", chars(s))
			wantPat(t, "["+s+"~"+s+"]", chars(s))
			continue
		}
		for _, class := range []string{"[" + s + "]", "[a" + s + "]", "[" + s + "a]", "[a" + s + "c]"} {
			if s != "]" && class != "[a~c]" {
				wantNoPattern(t, class)
			}
		}
	}
}

func TestEverySpan(t *testing.T) {
	for lo := range 256 {
		for hi := range 256 {
			first, last := oneByte(lo), oneByte(hi)
			if lo <= hi && strings.Contains(classChars, first) && strings.Contains(classChars, last) {
				wantPat(t, "["+first+"~"+last+"]", chars(bytesFrom(lo, hi)))
			} else {
				wantNoPattern(t, "["+first+"~"+last+"]")
			}
		}
	}
}

func TestClasses(t *testing.T) {
	for s, want := range map[string]string{
		// They are in ascending order, each byte once.
		"[ca]": "ac", "[cba]": "abc", "[zyx9-]": "-9xyz", "[aa]": "a", "[abab]": "ab", "[_a.0-]": "-.0_a", "[z_9.-]": "-.9_z",
		// Spans that overlap, touch or lie within each other.
		"[a~cb~e]": "abcde", "[b~ea~c]": "abcde", "[a~cd~e]": "abcde", "[d~ea~c]": "abcde", "[a~cc~e]": "abcde", "[a~eb~d]": "abcde", "[b~da~e]": "abcde", "[a~ca~c]": "abc", "[a~cb]": "abc", "[ba~c]": "abc",
		// Spans that are apart.
		"[a~cx~z]": "abcxyz", "[x~za~c]": "abcxyz", "[0~2a~b]": "012ab", "[a~b0~2]": "012ab", "[ca~a]": "ac", "[a~cz]": "abcz", "[za~c]": "abcz", "[a~c-]": "-abc", "[-a~c]": "-abc", "[a~ce~gi~k]": "abcefgijk",
		// Bytes that may not be written lie within spans.
		"[.~0]": "./0", "[-~.]": "-.", "[-~0]": "-./0", "[9~a]": "9:;<=>?@ABCDEFGHIJKLMNOPQRSTUVWXYZ[\\]^_`a", "[_~a]": "_`a", "[0~_]": bytesFrom('0', '_'), "[-~z]": bytesFrom('-', 'z'), "[.~_]": bytesFrom('.', '_'),
		"[a~z0~9]": "0123456789abcdefghijklmnopqrstuvwxyz", "[-~za~z0~9._]": bytesFrom('-', 'z'),
		// A dot is itself.
		"[.]": ".", "[a.]": ".a", "[.a]": ".a", "[..]": ".", "[.~.]": ".",
		// A `-` makes no span.
		"[a-c]": "-ac", "[-]": "-", "[--]": "-", "[---]": "-", "[a-]": "-a", "[-a]": "-a",
	} {
		wantPat(t, s, chars(want))
	}
	wantPat(t, "[ca][ba]+", seq(chars("ac"), plus(chars("ab"))))
}

// textsThatAreNoPatterns are one or a few bytes off from being some.
func textsThatAreNoPatterns() []string {
	return []string{
		// Brackets that do not end, or do not begin.
		"(", ")", "((", "))", ")(", "(a", "a)", "a(", ")a", "((a)", "(a))", "(a|b", "a|b)", "(a))(", "()(", "())", "(()", "(a(b)", "a(b|(c)", "(|", "|)", "(*", "(a*", "a*)",
		// Classes that do not end, do not begin, or have no span.
		"[", "]", "[]", "[[", "]]", "][", "[a", "a]", "a[", "]a", "[a~c", "a~c]", "[[a]", "[a]]", "[[a]]", "[]a]", "[a[]", "[]]", "[a][", "[a][]", "[](a)", "([)]", "[(])", "[(a)]", "[a|b]", "[a*]", "[a", "[a(", "a[]b", "[]*",
		// Spans without a first or a last char, or in the wrong order.
		"[~]", "[~a]", "[a~]", "[~~]", "[a~~]", "[a~~c]", "[a~c~e]", "[ab~]", "[a~b~]", "[a~", "[~", "[a~c", "[a~(c)]", "[a~[c]]",
		"[c~a]", "[b~a]", "[a~9]", "[9~0]", "[a~_]", "[_~.]", "[.~-]", "[0~.]", "[a~cc~a]", "[c~aa~c]", "[ac~a]", "[a~-]", "[z~a]*",
		// Nothing to repeat, and repeating what has been repeated.
		"*", "+", "?", "*a", "+a", "?a", "(*)", "(+)", "(?)", "(*a)", "(?a)", "a|*", "a|+b", "|?", "|*", "*|a", "(|*)", "a(+)",
		"a**", "a*+", "a*?", "a+*", "a++", "a+?", "a?*", "a?+", "a??", "a***", "**", "??", "++", "[a]**", "(a)*?", "()++", ".??", "ab**", "a**b", "(a**)", "a|b*+",
		// Bytes that begin no atom.
		"A", "Z", "aB", "_", "a_b", "~", "a~c", " ", " a", "a ", "a b", "a | b", "\n", "a\n", "a\t", "\x00", "a\x00", "\x7f", "\xff", "\u00e9", "a\u00e9", "^a", "a$", "^", "$", "\\", `\.`, `\a`, "{", "}", "a{2}", "/", "a/b", ",", ":", ";", "=", "!", "\"", "'a'", `"a"`, "<", ">", "@", "&", "%", "#", "a#b",
		"[A]", "[aA]", "[ ]", "[a b]", "[^a]", `[\]]`, "[a,c]", "[a/c]", "[:]", "[a~Z]", "[A~Z]", "[A~z]", "[ ~~]", "[a\x00]", "[\xff]", "[\u00e9]", "(A)", "( )", "a|B", "a+_",
	}
}

func TestTextsThatAreNoPatterns(t *testing.T) {
	for _, s := range textsThatAreNoPatterns() {
		wantNoPattern(t, s)
		wantNoPattern(t, "ab|"+s)
		wantNoPattern(t, s+"|ab")
		wantNoPattern(t, "a*|"+s+"|[b]")
		if !strings.ContainsAny(s, "()") {
			wantNoPattern(t, "("+s+")")
			wantNoPattern(t, "(("+s+")a)*")
		}
	}
}

func TestPatternsOfMaxPatternBytes(t *testing.T) {
	a := chars("a")
	for s, want := range map[string]impl.Pat{
		strings.Repeat("a", 30):                                  seq(slices.Repeat([]impl.Pat{a}, 30)...),
		strings.Repeat("|", 30):                                  alt(slices.Repeat([]impl.Pat{seq()}, 31)...),
		strings.Repeat("a*", 15):                                 seq(slices.Repeat([]impl.Pat{star(a)}, 15)...),
		strings.Repeat("a+", 15):                                 seq(slices.Repeat([]impl.Pat{plus(a)}, 15)...),
		strings.Repeat("(", 15) + strings.Repeat(")", 15):        seq(),
		strings.Repeat("(", 14) + "ab" + strings.Repeat(")", 14): seq(a, chars("b")),
		"[" + strings.Repeat("a", 28) + "]":                      a,
		"[0~9" + strings.Repeat("z~z", 8) + "_]":                 chars("0123456789_z"),
		strings.Repeat(".", 30):                                  seq(slices.Repeat([]impl.Pat{anyChar()}, 30)...),
		strings.Repeat("a", 14) + "|" + strings.Repeat("a", 15):  alt(seq(slices.Repeat([]impl.Pat{a}, 14)...), seq(slices.Repeat([]impl.Pat{a}, 15)...)),
	} {
		if len(s) != impl.MaxPattern {
			t.Fatalf("%q has %d bytes", s, len(s))
		}
		wantPat(t, s, want)
		for _, longer := range []string{s + "a", "a" + s, s + "|", "|" + s, s + "()", "(" + s + ")", s + s, strings.Repeat(s, 500)} {
			wantNoPattern(t, longer)
		}
	}
	wantPat(t, strings.Repeat("(", 9)+"a+"+strings.Repeat(")+", 9), nestedPlus(10, a))
	wantPat(t, "b"+strings.Repeat("(", 9)+"a+"+strings.Repeat(")+", 9), seq(chars("b"), nestedPlus(10, a)))
	wantNoPattern(t, strings.Repeat("(", 10)+"a+"+strings.Repeat(")+", 10))
	wantNoPattern(t, strings.Repeat("(", 30))
	wantNoPattern(t, strings.Repeat("(", 14)+"ab"+strings.Repeat(")", 13)+"a")
	wantNoPattern(t, strings.Repeat(")", 30))
	wantNoPattern(t, strings.Repeat("(", 100000))
	wantNoPattern(t, strings.Repeat("a", 1000000))
	wantNoPattern(t, strings.Repeat("\n", 31))
}

func nestedPlus(depth int, p impl.Pat) impl.Pat {
	for range depth {
		p = plus(p)
	}
	return p
}

// written is the pattern of p, if p is one that a pattern can become.
func written(p impl.Pat) string {
	parts := []string{}
	for _, kid := range p.Kids {
		loose := kid.Op == impl.PatAlt || kid.Op == impl.PatSeq && p.Op != impl.PatAlt
		if loose || kid.Op != impl.PatChars && (p.Op == impl.PatStar || p.Op == impl.PatMaybe) {
			parts = append(parts, "("+written(kid)+")")
		} else {
			parts = append(parts, written(kid))
		}
	}
	switch p.Op {
	case impl.PatChars:
		return "[" + p.Text + "]"
	case impl.PatAlt:
		return strings.Join(parts, "|")
	case impl.PatStar:
		return parts[0] + "*"
	case impl.PatMaybe:
		return parts[0] + "?"
	}
	return strings.Join(parts, "")
}

// canBeWritten reports whether a pattern can become p.
func canBeWritten(p impl.Pat) bool {
	for _, kid := range p.Kids {
		if !canBeWritten(kid) {
			return false
		}
	}
	switch p.Op {
	case impl.PatChars:
		return p.Text != "" && p.Text != "ba"
	case impl.PatSeq:
		return len(p.Kids) != 1
	case impl.PatAlt:
		return len(p.Kids) > 1
	case impl.PatStar, impl.PatMaybe:
		return len(p.Kids) == 1
	}
	return false
}

func TestPatternsThatAreWrittenAreReadAgain(t *testing.T) {
	read := 0
	for _, p := range append(smallPats(), mixedPats(5000)...) {
		if !canBeWritten(p) {
			continue
		}
		s := written(p)
		for _, form := range []string{s, strings.NewReplacer("[a]", "a", "[b]", "b").Replace(s), strings.ReplaceAll(s, "[ab]", "[ba~b]")} {
			if len(form) > impl.MaxPattern {
				wantNoPattern(t, form)
				continue
			}
			wantPat(t, form, p)
			read++
		}
	}
	if read < 3000 {
		t.Errorf("only %d of the patterns are read", read)
	}
}

var (
	classForm = regexp.MustCompile(`\[(?:[-a.](?:~[-a.])?)+\]`)
	spanForm  = regexp.MustCompile(`(.)~(.)`)
	atomForm  = regexp.MustCompile(`[-a.]`)
	seqsForm  = `(?:(?:x[*+?]?)*(?:\|(?:x[*+?]?)*)*)`
	innerForm = regexp.MustCompile(`\(` + seqsForm + `\)`)
	wholeForm = regexp.MustCompile(`^` + seqsForm + `$`)
)

// isPatternByReducing tells patterns of the bytes a, -, . and the signs of the
// grammar: it makes one atom x of each innermost bracket until none is left.
func isPatternByReducing(s string) bool {
	ordered := true
	s = classForm.ReplaceAllStringFunc(s, func(class string) string {
		for _, span := range spanForm.FindAllStringSubmatch(class, -1) {
			ordered = ordered && span[1] <= span[2]
		}
		return "x"
	})
	s = atomForm.ReplaceAllString(s, "x")
	for innerForm.MatchString(s) {
		s = innerForm.ReplaceAllString(s, "x")
	}
	return ordered && wholeForm.MatchString(s)
}

func TestEveryShortTextIsAPatternOrNot(t *testing.T) {
	found := 0
	for _, s := range append(append(shortStrings("a*?|()", 6), shortStrings("a.-[]~", 6)...), shortStrings("a([+~])|", 5)...) {
		want := isPatternByReducing(s)
		if want {
			found++
		}
		if got := impl.IsPattern(s); got != want {
			t.Fatalf("IsPattern(%q) = %t", s, got)
		}
		if p, ok := impl.ParsePattern(s); ok != want || !ok && !samePat(p, impl.Pat{}) {
			t.Fatalf("ParsePattern(%q) = %s, %t", s, shownPat(p), ok)
		}
	}
	if found < 4000 {
		t.Errorf("only %d of the texts are patterns", found)
	}
}

// addKids adds to owners the memory of the kids of all parts of p, also the
// memory behind them, and fails where a part has it already.
func addKids(t *testing.T, s string, p impl.Pat, owners map[*impl.Pat]bool) {
	t.Helper()
	all := p.Kids[:cap(p.Kids)]
	for i := range all {
		if owners[&all[i]] {
			t.Fatalf("two parts of what %q becomes share memory", s)
		}
		owners[&all[i]] = true
	}
	for _, kid := range p.Kids {
		addKids(t, s, kid, owners)
	}
}

func TestPartsOfAPatternShareNoMemory(t *testing.T) {
	for _, s := range []string{
		"", "a", "ab", "a|b", "|", "a*", "a?", "a+", ".+", "[a~c]+", "(ab)+", "(a|b)+", "(a*)+", "(a?)+", "()+", "(ab|c)+", "(a+)+", "((a+)+)+", "a+b+", "(a+|b+)+", "a+a+", "(ab)+(ab)+", "(a(b|c))+", "(a|(bc|d)*)+",
		"(((((((((a+)+)+)+)+)+)+)+)+)+", "(((((((((ab)+)+)+)+)+)+)+)+)",
	} {
		p, ok := impl.ParsePattern(s)
		again, _ := impl.ParsePattern(s)
		if !ok {
			t.Fatalf("ParsePattern(%q) failed", s)
		}
		// Neither do those of two results.
		owners := map[*impl.Pat]bool{}
		addKids(t, s, p, owners)
		addKids(t, s, again, owners)
	}
	p, _ := impl.ParsePattern("(ab)+")
	p.Kids[0].Kids[0].Text = "x"
	_ = append(p.Kids[0].Kids[:1], chars("y"))
	if rest := p.Kids[1]; !samePat(rest, star(seq(chars("a"), chars("b")))) {
		t.Errorf("a change of the first part of (ab)+ made the second one %s", shownPat(rest))
	}
}

func TestMatchChars(t *testing.T) {
	wantJust(t, chars("a"), "a")
	wantJust(t, chars("ac"), "a", "c")
	wantJust(t, chars("cab"), "a", "b", "c")
	wantJust(t, chars("aa"), "a")
	wantJust(t, chars(""))
	wantJust(t, impl.Pat{Op: impl.PatChars, Text: "a", Kids: []impl.Pat{chars("b")}}, "a")
	odd := "\x00\n\x1f\x7f\x80\xc3\xff"
	for b := range 256 {
		s := oneByte(b)
		wantMatch(t, chars(odd), s, strings.Contains(odd, s))
		wantMatch(t, chars(s), s, true)
		wantMatch(t, chars(s), s+s, false)
		wantMatch(t, chars(s), oneByte(255-b), false)
		wantMatch(t, chars(everyByte()), s, true)
	}
	// They are bytes, not runes.
	wantMatch(t, chars("\u00e9"), "\u00e9", false)
	wantMatch(t, chars("\u00e9"), "\xc3", true)
	wantMatch(t, seq(chars("\u00e9"), chars("\u00e9")), "\u00e9", true)
	wantMatch(t, chars("\ufffd"), "\xff", false)
}

func TestMatchSeq(t *testing.T) {
	a, b := chars("a"), chars("b")
	wantJust(t, seq(), "")
	wantJust(t, impl.Pat{Op: impl.PatSeq, Text: "a"}, "")
	wantJust(t, seq(a), "a")
	wantJust(t, seq(a, b), "ab")
	wantJust(t, seq(a, b, chars("c")), "abc")
	wantJust(t, seq(a, chars("bc"), a), "aba", "aca")
	wantJust(t, seq(seq(), a, seq(), b, seq()), "ab")
	wantJust(t, seq(seq(a, b), seq(b, a)), "abba")
	wantJust(t, seq(a, alt(), b))
	wantJust(t, seq(a, chars("")))
	// These can divide a text in more than one way.
	wantJust(t, seq(star(a), star(a)), "", "a", "aa", "aaa", "aaaa")
	wantJust(t, seq(star(a), a), "a", "aa", "aaa", "aaaa")
	wantJust(t, seq(maybe(a), maybe(a), a), "a", "aa", "aaa")
	wantJust(t, seq(alt(a, seq(a, b)), alt(seq(b, b), b)), "ab", "abb", "abbb")
	wantJust(t, seq(alt(seq(a, b), a), alt(b, seq(b, b))), "ab", "abb", "abbb")
	wantJust(t, seq(star(chars("ab")), a, b), "ab", "aab", "bab", "aaab", "abab", "baab", "bbab")
	wantJust(t, seq(star(a), maybe(b), star(a)), "", "a", "aa", "aaa", "aaaa", "b", "ab", "ba", "aab", "aba", "baa", "aaab", "aaba", "abaa", "baaa")
}

func TestMatchAlt(t *testing.T) {
	a, b := chars("a"), chars("b")
	wantJust(t, alt())
	wantJust(t, impl.Pat{Op: impl.PatAlt, Text: "a"})
	wantJust(t, alt(a), "a")
	wantJust(t, alt(a, b), "a", "b")
	wantJust(t, alt(a, a), "a")
	wantJust(t, alt(seq(), a), "", "a")
	wantJust(t, alt(a, seq()), "", "a")
	wantJust(t, alt(alt(), b), "b")
	wantJust(t, alt(seq(a, b), a, seq(b, b, b)), "a", "ab", "bbb")
	wantJust(t, alt(a, seq(a, b), seq(a, b, a)), "a", "ab", "aba")
	wantJust(t, seq(alt(a, b), alt(b, chars("c"))), "ab", "ac", "bb", "bc")
}

func TestMatchStarAndMaybe(t *testing.T) {
	a, b := chars("a"), chars("b")
	wantJust(t, star(a), "", "a", "aa", "aaa", "aaaa")
	wantJust(t, star(seq(a, b)), "", "ab", "abab")
	wantJust(t, star(seq(a, a)), "", "aa", "aaaa")
	wantJust(t, star(seq(a, b, b)), "", "abb")
	wantJust(t, seq(star(a), b), "b", "ab", "aab", "aaab")
	wantJust(t, seq(b, star(a)), "b", "ba", "baa", "baaa")
	wantJust(t, star(alt(seq(a, a), seq(a, a, a))), "", "aa", "aaa", "aaaa")
	wantJust(t, star(alt()), "")
	wantJust(t, star(chars("")), "")
	wantJust(t, maybe(a), "", "a")
	wantJust(t, maybe(seq(a, b)), "", "ab")
	wantJust(t, maybe(star(seq(a, a))), "", "aa", "aaaa")
	wantJust(t, seq(maybe(a), b), "b", "ab")
	wantJust(t, seq(a, maybe(b)), "a", "ab")
	wantJust(t, maybe(maybe(a)), "", "a")
	wantJust(t, maybe(alt()), "")
	// With another number of kids than 1 they have just the empty text.
	for _, kids := range [][]impl.Pat{nil, {}, {a, b}, {a, a}, {seq(), a}, {a, b, a}, {alt(), alt()}, {{}, {}}} {
		for _, p := range []impl.Pat{star(kids...), maybe(kids...), {Op: impl.PatStar, Text: "a", Kids: kids}, {Op: impl.PatMaybe, Text: "a", Kids: kids}} {
			wantJust(t, p, "")
			wantJust(t, seq(a, p, b), "ab")
			wantJust(t, star(p), "")
			wantJust(t, alt(p, a), "", "a")
		}
	}
}

func TestMatchOtherOps(t *testing.T) {
	a := chars("a")
	for _, op := range []int{0, -1, 6, 7, 100, -1 << 63, 1<<63 - 1, impl.PatChars + 1<<32, impl.PatStar - 1<<32} {
		for _, p := range []impl.Pat{{Op: op}, {Op: op, Text: "a"}, {Op: op, Kids: []impl.Pat{a}}, {Op: op, Text: "a", Kids: []impl.Pat{seq(), a}}} {
			wantJust(t, p)
			wantJust(t, seq(a, p))
			wantJust(t, seq(p, a))
			wantJust(t, seq(maybe(p), a), "a")
			wantJust(t, alt(p, a), "a")
			wantJust(t, star(p), "")
			wantJust(t, star(alt(a, p)), "", "a", "aa", "aaa", "aaaa")
		}
	}
}

// This is promise 5, found with the definition alone.
func TestPatternsHaveTheTextsOfTheirParts(t *testing.T) {
	short := shortStrings("ab", 4)
	pats := append(smallPats(), mixedPats(4000)...)
	for _, p := range pats {
		has := texts(p, 4)
		for _, s := range short {
			if got := impl.MatchPattern(p, s); got != has[s] {
				t.Fatalf("MatchPattern(%s, %q) = %t", shownPat(p), s, got)
			}
		}
	}
	mixed := mixedPats(400)
	for i, p := range mixed[1:] {
		q := mixed[i]
		wantPartsToAgree(t, p, q, shortStrings("ab", 6)[i%90:i%90+30])
	}
}

func wantPartsToAgree(t *testing.T, p impl.Pat, q impl.Pat, list []string) {
	t.Helper()
	for _, s := range list {
		divided, repeated := false, s == ""
		for i := range len(s) + 1 {
			divided = divided || impl.MatchPattern(p, s[:i]) && impl.MatchPattern(q, s[i:])
			repeated = repeated || i > 0 && impl.MatchPattern(p, s[:i]) && impl.MatchPattern(star(p), s[i:])
		}
		wantMatch(t, seq(p, q), s, divided)
		wantMatch(t, star(p), s, repeated)
		wantMatch(t, alt(p, q), s, impl.MatchPattern(p, s) || impl.MatchPattern(q, s))
		wantMatch(t, maybe(p), s, s == "" || impl.MatchPattern(p, s))
	}
}

func TestMatchText(t *testing.T) {
	wantMatchText(t, "", []string{""}, []string{"a", " ", "\x00"})
	wantMatchText(t, "()", []string{""}, []string{"a", "()"})
	wantMatchText(t, "||", []string{""}, []string{"a", "|", "||"})
	wantMatchText(t, "|a", []string{"", "a"}, []string{"|a", "aa"})
	wantMatchText(t, "a|", []string{"", "a"}, []string{"a|", "aa"})
	wantMatchText(t, "a*b", []string{"b", "ab", "aab"}, []string{"", "a", "aa", "ba", "abb", "a*b"})
	wantMatchText(t, "a+", []string{"a", "aa", "aaaa"}, []string{"", "b", "ab", "ba", "a+"})
	wantMatchText(t, "(ab|c)+", []string{"ab", "c", "abcab", "cc", "abab"}, []string{"", "a", "abb", "ac", "ca"})
	wantMatchText(t, "ab+", []string{"ab", "abb"}, []string{"", "a", "abab", "b"})
	wantMatchText(t, "ab|cd", []string{"ab", "cd"}, []string{"abd", "acd", "abcd", ""})
	wantMatchText(t, "a(b|c)d", []string{"abd", "acd"}, []string{"ab", "cd", "ad", "abcd"})
	wantMatchText(t, "[a~c]?x", []string{"x", "ax", "bx", "cx"}, []string{"", "dx", "aax", "a", "~x", "[x"})
	wantMatchText(t, "[a-c]", []string{"a", "-", "c"}, []string{"b", "", "a-c"})
	wantMatchText(t, "[.~9]+", []string{"1.0", "../", "7"}, []string{"", "-", "1:0", "a"})
	wantMatchText(t, "[.]", []string{"."}, []string{"a", "", " ", ".."})
	wantMatchText(t, "-7", []string{"-7"}, []string{"7", "-", "--7"})
	wantMatchText(t, "eth[0~9]+(.[0~9]+)?", []string{"eth0", "eth10.7", "eth1/2", "eth123"}, []string{"eth", "eth0.", "eth.1", "0", "Eth0", "eth1.2.3"})
	wantMatchText(t, "([a~z]+.)*[a~z]+", []string{"a", "a.b", "www.example.net", "a b"}, []string{"", ".", "a.", "a\nb", "A"})
	for b := range 256 {
		s := oneByte(b)
		if b >= 32 && b <= 126 {
			wantMatchText(t, ".", []string{s}, nil)
			wantMatchText(t, "a.*", []string{"a" + s + s}, nil)
		} else {
			wantMatchText(t, ".", nil, []string{s, s + s})
			wantMatchText(t, ".*", nil, []string{s, "a" + s, s + "a"})
			wantMatchText(t, "a?", nil, []string{s})
		}
	}
	wantMatchText(t, "..", []string{"ab", "  ", "~~"}, []string{"", "a", "abc", "\u00e9"})
}

func TestMatchTextOfNoPattern(t *testing.T) {
	for _, s := range append(textsThatAreNoPatterns(), strings.Repeat("a", 31), strings.Repeat("a?", 16)) {
		wantMatchText(t, s, nil, []string{"", "a", "ab", s, strings.Repeat("a", 31)})
	}
}

// toRegexp is the regular expression of a pattern.
func toRegexp(pattern string) *regexp.Regexp {
	inClass := false
	expression := ""
	for _, r := range pattern {
		c := string(r)
		switch {
		case c == "[" || c == "]":
			inClass = c == "["
		case c == "~":
			c = "-"
		case inClass && (c == "-" || c == "."):
			c = `\` + c
		case c == ".":
			c = "[ -~]"
		}
		expression += c
	}
	return regexp.MustCompile(`\A(?:` + expression + `)\z`)
}

func TestPatternsMatchAsRegularExpressions(t *testing.T) {
	short := append(shortStrings("ab", 5), "-", ".", "a-", "b.", "c", "\n", "\x1f", "~", " a", "abcab", "aaaaaaaaab", "cab", "bcc")
	patterns := append(shortStrings("ab*|()", 5), shortStrings("a+?[]~.", 4)...)
	patterns = append(patterns,
		"(a|b)*abb", "(a*b*)*c?", "((a|b)(a|b))*", "(a|ab)(c|bcd)*", "[a~c-]*[.-]?", "(a?b?)*", "(ab?|ba?)+", "(a+b+)+", "(a+|b+)+c*", "((a*)*|b)*", "(|a|b)(|a|b)(|a|b)", "a?a?a?aaa", ".*b.*", "(.a)*", "([a]b|[b]a)*", "(a(b(a(b)?)?)?)?")
	matched := 0
	for _, pattern := range patterns {
		if !impl.IsPattern(pattern) {
			continue
		}
		expression := toRegexp(pattern)
		for _, s := range short {
			if got := impl.MatchText(pattern, s); got != expression.MatchString(s) {
				t.Fatalf("MatchText(%q, %q) = %t", pattern, s, got)
			}
		}
		matched++
	}
	if matched < 1000 {
		t.Errorf("only %d patterns are compared", matched)
	}
}

func TestStarsOfEmptyTextsEnd(t *testing.T) {
	inTime(t, "stars of empty texts", func() {
		for _, pattern := range []string{"(a*)*", "(a?)*", "(|a)*", "(a|)*", "(a*|)*", "((a*)*)*", "((a?)*)*", "(a*)+", "(a?)+", "((a*)+)*", "(a*a*)*", "(a?a?)*", "(()a*)*", "(a*())*", "(a+)*", "((a+)*)*", "(a*b?)*", "((|a)(|b))*"} {
			wantMatchText(t, pattern, []string{"", "a", "aaa", strings.Repeat("a", 2000)}, []string{"c", "aac", strings.Repeat("a", 2000) + "c", "caa"})
		}
		for _, pattern := range []string{"()*", "()+", "(()*)*", "(|)*", "(||)+", "(()?)*", "(()())*", "((|)*)*", "(()*()*)*"} {
			wantMatchText(t, pattern, []string{""}, []string{"a", "()", "aaa"})
		}
		wantMatchText(t, "(a*)*b", []string{"b", "ab", strings.Repeat("a", 2000) + "b"}, []string{"", "a", strings.Repeat("a", 2000), "ba"})
		wantMatchText(t, "b(a*)*", []string{"b", "ba", "baa"}, []string{"", "ab", "bab"})
		wantMatchText(t, "((a*)*(b*)*)*", []string{"", "a", "ba", "abba", "bbbaaab"}, []string{"c", "abc", "cab"})
		a := chars("a")
		for _, empty := range []impl.Pat{seq(), star(), maybe(), star(a, a), maybe(a, a), star(alt()), maybe(alt()), alt(seq()), seq(seq(), seq())} {
			wantJust(t, star(empty), "")
			wantJust(t, star(star(empty)), "")
			wantJust(t, star(alt(empty, a)), "", "a", "aa", "aaa", "aaaa")
			wantJust(t, star(alt(a, empty)), "", "a", "aa", "aaa", "aaaa")
			wantJust(t, star(seq(empty, a, empty)), "", "a", "aa", "aaa", "aaaa")
			wantJust(t, seq(star(empty), a), "a")
		}
	})
}

func TestManyWaysToDivideATextTakeNoLonger(t *testing.T) {
	a := chars("a")
	many := strings.Repeat("a", 500)
	inTime(t, "many ways", func() {
		for _, pattern := range []string{"(a|a)*b", "(a*)*b", "(a+)+b", "(a|aa)+b", "a*a*a*a*a*a*a*b", "((a*)*)*b", "(a?a?a?)*b", "(.*)(.*)(.*)(.*)b", "(((((((((a+)+)+)+)+)+)+)+)+)+b"} {
			wantMatchText(t, pattern, nil, []string{many, many + "c", many + "ba"})
			if len(pattern) <= impl.MaxPattern {
				wantMatchText(t, pattern, []string{many + "b"}, nil)
			}
		}
		for _, depth := range []int{5, 64, 300} {
			p := seq(nested(impl.PatStar, depth, a), chars("b"))
			wantMatch(t, p, many, false)
			wantMatch(t, p, many+"b", true)
			wantMatch(t, nested(impl.PatStar, depth, alt(a, seq())), many, true)
			wantMatch(t, nested(impl.PatStar, depth, seq(star(a), maybe(a))), many+"b", false)
			optional := seq(slices.Repeat([]impl.Pat{maybe(a)}, depth)...)
			demanded := seq(slices.Repeat([]impl.Pat{a}, depth)...)
			wantMatch(t, seq(optional, demanded), strings.Repeat("a", depth-1), false)
			wantMatch(t, seq(optional, demanded), strings.Repeat("a", depth), true)
			wantMatch(t, seq(optional, demanded), strings.Repeat("a", 2*depth), true)
			wantMatch(t, seq(optional, demanded), strings.Repeat("a", 2*depth+1), false)
			wantMatch(t, seq(slices.Repeat([]impl.Pat{star(a)}, depth)...), many+"b", false)
			wantMatch(t, alt(slices.Repeat([]impl.Pat{star(alt(a, a))}, depth)...), many, true)
		}
	})
}

func TestDeepPatternsAndLongTexts(t *testing.T) {
	a := chars("a")
	inTime(t, "deep patterns", func() {
		for _, op := range []int{impl.PatSeq, impl.PatAlt, impl.PatStar, impl.PatMaybe} {
			for _, depth := range []int{1000, 1000000} {
				p := nested(op, depth, a)
				repeats := op == impl.PatStar
				empty := repeats || op == impl.PatMaybe
				for s, want := range map[string]bool{"a": true, "": empty, "aa": repeats} {
					if got := impl.MatchPattern(p, s); got != want {
						t.Errorf("MatchPattern of %d patterns %d within each other and %q = %t", depth, op, s, got)
					}
				}
			}
		}
	})
	inTime(t, "wide patterns", func() {
		const wide = 100000
		kids := slices.Repeat([]impl.Pat{maybe(a)}, wide)
		wantMatch(t, seq(kids...), "", true)
		wantMatch(t, seq(kids...), "aaa", true)
		wantMatch(t, seq(kids...), "aab", false)
		wantMatch(t, alt(kids...), "a", true)
		wantMatch(t, alt(kids...), "aa", false)
		wantMatch(t, star(alt(kids...)), "aaaaa", true)
		wantMatch(t, seq(slices.Repeat([]impl.Pat{a}, wide)...), strings.Repeat("a", wide), true)
		wantMatch(t, seq(slices.Repeat([]impl.Pat{a}, wide)...), strings.Repeat("a", wide-1), false)
	})
	inTime(t, "long texts", func() {
		long := strings.Repeat("ab", 200000)
		wantMatchText(t, "(ab)*", []string{long}, []string{long + "a", "b" + long})
		wantMatchText(t, "((a|b)*)*", []string{long, long + "a"}, []string{long + "c", long + "c" + long})
		wantMatchText(t, ".*", []string{long}, []string{long + "\n"})
		wantMatchText(t, "a", nil, []string{long})
	})
}
