package tests

import (
	"fmt"
	"math"
	"regexp"
	"slices"
	"strings"
	"testing"

	"loop.example/g03013/impl"
)

func aTest(name string, value string) impl.Test {
	return impl.Test{Name: name, Value: value}
}

func aStep(name string, tests ...impl.Test) impl.Step {
	return impl.Step{Name: name, Tests: tests}
}

func fromRoot(steps ...impl.Step) impl.Path {
	return impl.Path{Root: true, Steps: steps}
}

func fromAbove(ups int, steps ...impl.Step) impl.Path {
	return impl.Path{Ups: ups, Steps: steps}
}

func fromHere(steps ...impl.Step) impl.Path {
	return impl.Path{Steps: steps}
}

// stepsWithout are count steps without tests.
func stepsWithout(count int) []impl.Step {
	l := []impl.Step{}
	for _, s := range names(count) {
		l = append(l, aStep(s))
	}
	return l
}

// testsOf are count tests with different names.
func testsOf(count int) []impl.Test {
	l := []impl.Test{}
	for i, s := range names(count) {
		l = append(l, aTest(s, strings.Repeat("v", i%impl.MaxText)))
	}
	return l
}

// everyStart are the given steps from every place where a path may begin.
func everyStart(steps ...impl.Step) []impl.Path {
	return []impl.Path{fromRoot(steps...), fromHere(steps...), fromAbove(1, steps...), fromAbove(2, steps...), fromAbove(impl.MaxUps, steps...)}
}

// stepForms are valid steps, by how they are written.
func stepForms() map[string]impl.Step {
	longName, longText := "abcdefghijklmn-0", strings.Repeat("~", impl.MaxText)
	return map[string]impl.Step{
		"a": aStep("a"), "z-9": aStep("z-9"), longName: aStep(longName), "or": aStep("or"), "and": aStep("and"), "not": aStep("not"), "count": aStep("count"),
		`a[b="c"]`: aStep("a", aTest("b", "c")), `a[a="a"]`: aStep("a", aTest("a", "a")), `a[b=""]`: aStep("a", aTest("b", "")), `a[b=" "]`: aStep("a", aTest("b", " ")), `or[and="not"]`: aStep("or", aTest("and", "not")),
		`a[b="\""]`: aStep("a", aTest("b", `"`)), `a[b="\\"]`: aStep("a", aTest("b", `\`)), `a[b="\\\""]`: aStep("a", aTest("b", `\"`)), `a[b="]"]`: aStep("a", aTest("b", "]")), `a[b="["]`: aStep("a", aTest("b", "[")), `a[b="/"]`: aStep("a", aTest("b", "/")), `a[b=".."]`: aStep("a", aTest("b", "..")), `a[b="#"]`: aStep("a", aTest("b", "#")),
		`a[b="/c[d=\"e\"]"]`: aStep("a", aTest("b", `/c[d="e"]`)), `a[b="x y  z "]`: aStep("a", aTest("b", "x y  z ")), `a[b="-7"]`: aStep("a", aTest("b", "-7")), `a[b="A_{}!&'"]`: aStep("a", aTest("b", "A_{}!&'")), `a[b="` + longText + `"]`: aStep("a", aTest("b", longText)), `a[` + longName + `="c"]`: aStep("a", aTest(longName, "c")),
		`a[b="c"][d="e"]`: aStep("a", aTest("b", "c"), aTest("d", "e")), `a[d="e"][b="c"]`: aStep("a", aTest("d", "e"), aTest("b", "c")), `a[b="c"][d="c"]`: aStep("a", aTest("b", "c"), aTest("d", "c")), `a[b="\""][c="\\"][a=""]`: aStep("a", aTest("b", `"`), aTest("c", `\`), aTest("a", "")), `a[c="3"][b="2"][a="1"]`: aStep("a", aTest("c", "3"), aTest("b", "2"), aTest("a", "1")),
	}
}

// pathForms are valid paths, by how they are written.
func pathForms() map[string]impl.Path {
	forms := map[string]impl.Path{
		"/": fromRoot(), "..": fromAbove(1), "../..": fromAbove(2), "../../..": fromAbove(3), "../../../../../../../..": fromAbove(impl.MaxUps), "../name": fromAbove(1, aStep("name")), `/user[name="a"]/level`: fromRoot(aStep("user", aTest("name", "a")), aStep("level")), `../../user[name="a"]/level`: fromAbove(2, aStep("user", aTest("name", "a")), aStep("level")),
		"a/b/c": fromHere(aStep("a"), aStep("b"), aStep("c")), "a/a": fromHere(aStep("a"), aStep("a")), "/a/a/a": fromRoot(aStep("a"), aStep("a"), aStep("a")), `a[k="1"]/a[k="1"]`: fromHere(aStep("a", aTest("k", "1")), aStep("a", aTest("k", "1"))), `a/b[k="1"][l="2"]/c`: fromHere(aStep("a"), aStep("b", aTest("k", "1"), aTest("l", "2")), aStep("c")),
		"n0/n1/n2/n3/n4/n5/n6/n7/n8/n9": fromHere(stepsWithout(impl.MaxSteps)...), "/n0/n1/n2/n3/n4/n5/n6/n7/n8/n9": fromRoot(stepsWithout(impl.MaxSteps)...), "../../../../../../../../n0/n1/n2/n3/n4/n5/n6/n7/n8/n9": fromAbove(impl.MaxUps, stepsWithout(impl.MaxSteps)...),
	}
	for s, step := range stepForms() {
		forms[s], forms["/"+s], forms["../"+s], forms["../../../"+s] = fromHere(step), fromRoot(step), fromAbove(1, step), fromAbove(3, step)
		forms[s+"/z"], forms["/z/"+s], forms["../z/"+s+"/z"], forms[s+"/"+s] = fromHere(step, aStep("z")), fromRoot(aStep("z"), step), fromAbove(1, aStep("z"), step, aStep("z")), fromHere(step, step)
	}
	return forms
}

// somePaths are valid paths.
func somePaths() []impl.Path {
	l := []impl.Path{}
	for _, p := range pathForms() {
		l = append(l, p)
	}
	for ups := 1; ups <= impl.MaxUps; ups++ {
		for count := range impl.MaxSteps + 1 {
			l = append(l, fromAbove(ups, stepsWithout(count)...))
		}
	}
	for count := 1; count <= impl.MaxSteps; count++ {
		full := []impl.Step{}
		for _, s := range names(count) {
			full = append(full, aStep(s, testsOf(impl.MaxTests)...))
		}
		l = append(l, everyStart(stepsWithout(count)...)...)
		l = append(l, everyStart(full...)...)
	}
	return l
}

func textsThatAreNoNames() []string {
	return []string{"", "A", "1", "-", "-a", "a-", "aB", "a_b", "a b", " a", "a ", "a\n", "a/b", "..", "/", "a.b", "abcdefghijklmnopq", strings.Repeat("a", 5000), "\xff", "\u00e4", `"a"`, "a[b]"}
}

func stringsThatAreNoTexts() []string {
	return []string{"\n", "a\nb", "\t", "\x00", "\x1f", "\x7f", "a\x7f", "\xff", "\u00e4", strings.Repeat("x", impl.MaxText+1), strings.Repeat("x", 5000), strings.Repeat(`"`, impl.MaxText+1)}
}

// wrongSteps are one field off from being valid.
func wrongSteps() []impl.Step {
	l := []impl.Step{
		{}, aStep("a", testsOf(impl.MaxTests+1)...), aStep("a", testsOf(200)...), aStep("a", impl.Test{}),
		aStep("a", aTest("b", "c"), aTest("b", "c")), aStep("a", aTest("b", "c"), aTest("b", "d")), aStep("a", aTest("b", "c"), aTest("d", "c"), aTest("b", "e")), aStep("a", aTest("d", "c"), aTest("b", "c"), aTest("b", "e")), aStep("a", aTest("b", ""), aTest("b", ""), aTest("b", "")),
	}
	for _, s := range textsThatAreNoNames() {
		l = append(l, aStep(s), aStep(s, aTest("b", "c")), aStep("a", aTest(s, "c")), aStep("a", aTest("b", "c"), aTest(s, "c")), aStep("a", aTest("b", "c"), aTest("d", "c"), aTest(s, "c")), aStep("a", aTest(s, "c"), aTest("d", "c")))
	}
	for _, s := range stringsThatAreNoTexts() {
		l = append(l, aStep("a", aTest("b", s)), aStep("a", aTest("b", "c"), aTest("d", s)), aStep("a", aTest("b", "c"), aTest("d", "c"), aTest("e", s)), aStep("a", aTest("b", s), aTest("d", "c")))
	}
	return l
}

// wrongPaths are one field off from being valid.
func wrongPaths() []impl.Path {
	l := []impl.Path{
		{}, {Steps: []impl.Step{}}, {Root: true, Ups: 1}, {Root: true, Ups: impl.MaxUps}, {Root: true, Ups: -1}, {Root: true, Ups: impl.MaxUps + 1}, {Root: true, Ups: 1, Steps: stepsWithout(2)}, {Root: true, Ups: math.MaxInt},
	}
	for _, ups := range []int{-1, -2, -impl.MaxUps, impl.MaxUps + 1, impl.MaxUps + 2, 100, 1 << 32, 1<<32 + 1, 256, 257, math.MaxInt, math.MinInt} {
		l = append(l, fromAbove(ups), fromAbove(ups, aStep("a")), fromAbove(ups, stepsWithout(impl.MaxSteps)...))
	}
	for _, count := range []int{impl.MaxSteps + 1, impl.MaxSteps + 2, 200} {
		l = append(l, everyStart(stepsWithout(count)...)...)
	}
	for _, s := range wrongSteps() {
		l = append(l, everyStart(s)...)
		l = append(l, fromRoot(aStep("a"), s), fromHere(s, aStep("a")), fromAbove(1, aStep("a"), s, aStep("b")), fromHere(append(stepsWithout(impl.MaxSteps-1), s)...))
	}
	return l
}

func shownPath(p impl.Path) string {
	return fmt.Sprintf("%.300s", fmt.Sprintf("%+v", p))
}

// equalPaths compares without the help of the functions that are tested.
func equalPaths(a impl.Path, b impl.Path) bool {
	if a.Root != b.Root || a.Ups != b.Ups || len(a.Steps) != len(b.Steps) {
		return false
	}
	for i, s := range a.Steps {
		if s.Name != b.Steps[i].Name || !slices.Equal(s.Tests, b.Steps[i].Tests) {
			return false
		}
	}
	return true
}

// copyOfPath has one more step behind its steps and one more test behind the
// tests of each, which no function may touch.
func copyOfPath(p impl.Path) impl.Path {
	steps := []impl.Step{}
	for _, s := range p.Steps {
		tests := append(slices.Clone(s.Tests), aTest("spare", "test"))
		steps = append(steps, aStep(s.Name, tests[:len(s.Tests)]...))
	}
	p.Steps = append(steps, aStep("spare"))[:len(steps)]
	return p
}

// changePath writes to all memory of p, and to what is behind it.
func changePath(p impl.Path) {
	for i, s := range p.Steps {
		for j := range s.Tests {
			s.Tests[j] = aTest("changed", "changed")
		}
		_ = append(s.Tests, aTest("behind", "behind"))
		p.Steps[i].Name = "changed"
		p.Steps[i].Tests = nil
	}
	_ = append(p.Steps, aStep("behind"))
}

// wantUntouchedPath is for a p that comes from copyOfPath(before).
func wantUntouchedPath(t *testing.T, name string, p impl.Path, before impl.Path) {
	t.Helper()
	if !equalPaths(p, before) {
		t.Fatalf("%s changed its argument from %s to %s", name, shownPath(before), shownPath(p))
	}
	if behind := p.Steps[:len(p.Steps)+1][len(p.Steps)]; behind.Name != "spare" || behind.Tests != nil {
		t.Errorf("%s changed the memory behind the steps of %s to %+v", name, shownPath(before), behind)
	}
	for _, s := range p.Steps {
		if behind := s.Tests[:len(s.Tests)+1][len(s.Tests)]; behind != aTest("spare", "test") {
			t.Errorf("%s changed the memory behind the tests of %s to %+v", name, shownPath(before), behind)
		}
	}
}

func wantPath(t *testing.T, p impl.Path, want bool) {
	t.Helper()
	given := copyOfPath(p)
	if got := impl.IsPath(given); got != want {
		t.Errorf("IsPath(%s) = %t", shownPath(p), got)
	}
	wantUntouchedPath(t, "IsPath", given, p)
}

func wantPathWritten(t *testing.T, p impl.Path, want string) {
	t.Helper()
	given := copyOfPath(p)
	if got := impl.FormatPath(given); got != want {
		t.Errorf("FormatPath(%s) = %.300q, want %.300q", shownPath(p), got, want)
	}
	wantUntouchedPath(t, "FormatPath", given, p)
}

func wantPathRead(t *testing.T, s string, want impl.Path) {
	t.Helper()
	if got, ok := impl.ParsePath(s); !ok || !equalPaths(got, want) {
		t.Errorf("ParsePath(%.200q) = %s, %t, want %s, true", s, shownPath(got), ok, shownPath(want))
	}
}

func wantNoPathRead(t *testing.T, s string) {
	t.Helper()
	if got, ok := impl.ParsePath(s); ok || !equalPaths(got, impl.Path{}) {
		t.Errorf("ParsePath(%.200q) = %s, %t, want the zero Path, false", s, shownPath(got), ok)
	}
}

// wantPlain also changes the result, which must not show in the argument.
func wantPlain(t *testing.T, p impl.Path, want impl.Path) {
	t.Helper()
	given := copyOfPath(p)
	got := impl.PlainPath(given)
	if !equalPaths(got, want) {
		t.Errorf("PlainPath(%s) = %s, want %s", shownPath(p), shownPath(got), shownPath(want))
	}
	changePath(got)
	wantUntouchedPath(t, "PlainPath", given, p)
}

// wantSamePath asks both ways round.
func wantSamePath(t *testing.T, a impl.Path, b impl.Path, want bool) {
	t.Helper()
	givenA, givenB := copyOfPath(a), copyOfPath(b)
	if got := impl.SamePath(givenA, givenB); got != want {
		t.Errorf("SamePath(%s, %s) = %t", shownPath(a), shownPath(b), got)
	}
	if got := impl.SamePath(givenB, givenA); got != want {
		t.Errorf("SamePath(%s, %s) = %t", shownPath(b), shownPath(a), got)
	}
	wantUntouchedPath(t, "SamePath", givenA, a)
	wantUntouchedPath(t, "SamePath", givenB, b)
}

func TestPathConstants(t *testing.T) {
	if impl.MaxSteps != 10 || impl.MaxUps != 8 || impl.MaxTests != 3 {
		t.Error(impl.MaxSteps, impl.MaxUps, impl.MaxTests)
	}
}

func TestValidPaths(t *testing.T) {
	for _, p := range somePaths() {
		wantPath(t, p, true)
		if !impl.IsPath(p) {
			t.Errorf("IsPath(%s) = false", shownPath(p))
		}
		// What is empty may also be nil.
		nils := copyOfPath(p)
		for i, s := range nils.Steps {
			if len(s.Tests) == 0 {
				nils.Steps[i].Tests = nil
			}
		}
		if len(nils.Steps) == 0 {
			nils.Steps = nil
		}
		if !impl.IsPath(nils) || impl.FormatPath(nils) != impl.FormatPath(p) || !impl.SamePath(nils, p) {
			t.Errorf("%s is another path if what is empty is nil", shownPath(p))
		}
	}
}

func TestPathsThatAreNotValid(t *testing.T) {
	for _, p := range wrongPaths() {
		wantPath(t, p, false)
		wantPathWritten(t, p, "")
	}
	if impl.IsPath(impl.Path{}) || impl.FormatPath(impl.Path{}) != "" {
		t.Error("the zero Path is valid")
	}
}

func TestWhereAPathBegins(t *testing.T) {
	for ups := -3; ups <= impl.MaxUps+3; ups++ {
		for count := range impl.MaxSteps + 3 {
			steps := stepsWithout(count)
			fits := count <= impl.MaxSteps
			wantPath(t, impl.Path{Root: true, Ups: ups, Steps: steps}, fits && ups == 0)
			wantPath(t, impl.Path{Ups: ups, Steps: steps}, fits && ups >= 0 && ups <= impl.MaxUps && ups+count > 0)
		}
	}
}

func TestTestsOfPaths(t *testing.T) {
	for count := range impl.MaxTests + 3 {
		for _, p := range everyStart(aStep("a", testsOf(count)...)) {
			wantPath(t, p, count <= impl.MaxTests)
		}
	}
	for i := range impl.MaxTests {
		for j := range impl.MaxTests {
			twice := testsOf(impl.MaxTests)
			twice[j].Name = twice[i].Name
			wantPath(t, fromHere(aStep("a", twice...)), i == j)
			alike := testsOf(impl.MaxTests)
			alike[j].Value = alike[i].Value
			wantPath(t, fromHere(aStep("a", alike...)), true)
		}
	}
	// Tests of other steps, and the step itself, may have the same name.
	wantPath(t, fromHere(aStep("a", aTest("b", "c")), aStep("a", aTest("b", "c"))), true)
	wantPath(t, fromHere(aStep("a", aTest("a", "a"))), true)
	wantPath(t, fromRoot(aStep("a"), aStep("b"), aStep("a")), true)
	for _, s := range append(shortStrings("aA-1 ", 3), "abcdefghijklmnop", "abcdefghijklmnopq") {
		wantPath(t, fromHere(aStep(s)), impl.IsName(s))
		wantPath(t, fromRoot(aStep("a"), aStep(s)), impl.IsName(s))
		wantPath(t, fromHere(aStep("a", aTest(s, ""))), impl.IsName(s))
	}
	for i := range 256 {
		in := i >= 32 && i <= 126
		wantPath(t, fromHere(aStep("a", aTest("b", oneByte(i)))), in)
		wantPath(t, fromAbove(1, aStep("a", aTest("b", "x"+oneByte(i)))), in)
	}
	for size := range 60 {
		wantPath(t, fromRoot(aStep("a", aTest("b", strings.Repeat("x", size)))), size <= impl.MaxText)
	}
}

func TestWrittenPaths(t *testing.T) {
	for s, p := range pathForms() {
		wantPathWritten(t, p, s)
		wantPathRead(t, s, p)
	}
}

func TestPathsThatAreWrittenAreReadAgain(t *testing.T) {
	seen := map[string]impl.Path{}
	for _, p := range somePaths() {
		s := impl.FormatPath(p)
		wantPathRead(t, s, p)
		if other, ok := seen[s]; ok && !equalPaths(other, p) {
			t.Errorf("%q is written for %s and %s", s, shownPath(other), shownPath(p))
		}
		seen[s] = p
	}
	if seen[""].Steps != nil {
		t.Error("a valid path is written as nothing")
	}
	for _, value := range shortStrings(`a"\ #[]/=`, 3) {
		quoted := impl.QuoteText(value)
		steps := []impl.Step{aStep("a"), aStep("b", aTest("c", value), aTest("d", value)), aStep("e", aTest("f", value))}
		for start, p := range map[string]impl.Path{"": fromHere(steps...), "/": fromRoot(steps...), "../": fromAbove(1, steps...), "../../../": fromAbove(3, steps...)} {
			s := start + "a/b[c=" + quoted + "][d=" + quoted + "]/e[f=" + quoted + "]"
			wantPathWritten(t, p, s)
			wantPathRead(t, s, p)
		}
	}
	for i := 32; i <= 126; i++ {
		p := fromHere(aStep("a", aTest("b", oneByte(i)+"x"+oneByte(i))))
		wantPathRead(t, impl.FormatPath(p), p)
	}
}

func TestBlanksAndRemarksInPaths(t *testing.T) {
	for s, p := range pathForms() {
		tokens, _ := impl.Lex(s)
		for _, between := range []string{" ", "  ", "\n", " \n ", "#\n", " # /a[b=\"c\"] .. |\n", "#\n#\n\n"} {
			parts := []string{}
			for _, token := range tokens {
				parts = append(parts, impl.TokenText(token))
			}
			spread := strings.Join(parts, between)
			for _, form := range []string{spread, between + spread, spread + between, between + spread + between, between + s + between, spread + "#", s + " # /a"} {
				wantPathRead(t, form, p)
			}
		}
	}
	for s, p := range map[string]impl.Path{
		"/ # a\n a": fromRoot(aStep("a")), ".. / ..": fromAbove(2), "..#\n/\n..": fromAbove(2), "a#b\n/c": fromHere(aStep("a"), aStep("c")), "/#a": fromRoot(), "..#/a": fromAbove(1), "a [ b = \"c\" ] / d": fromHere(aStep("a", aTest("b", "c")), aStep("d")), "a[b#]\n=\"#]\"]": fromHere(aStep("a", aTest("b", "#]"))),
		"/a [b=\"c\"]\n[d=\"e\"]": fromRoot(aStep("a", aTest("b", "c"), aTest("d", "e"))), "a-1/b": fromHere(aStep("a-1"), aStep("b")),
	} {
		wantPathRead(t, s, p)
	}
	// Blanks within a token make others of it.
	for _, s := range []string{". .", ". ./a", "a b", "/a b", "a- 1", "a -1", "a[b=\"c\" \"d\"]", "a[b c=\"d\"]", "a\t/b", "a/\rb", "\ta", "a\u00a0", "a#\r\n/b\r\n"} {
		wantNoPathRead(t, s)
	}
}

func TestWhatMayStandBetweenSteps(t *testing.T) {
	for _, s := range []string{
		"", " ", "\n", "#", "# a", "#\n",
		// No `/`, or one too many.
		"a b", "..a", ".. a", "....", ".. ..", "../.. a", "../....", "../.. ..", `a[b="c"]d`, `a[b="c"] d`, "/a b", "a ..", "a..",
		"a//b", "//", "//a", "///", "..//..", "..//a", "../..//a", "a/b//c", "/a//b", "a///b", `a[b="c"]//d`, "a/ /b", "/ /", "/#\n/a", "a/\n/b",
		"a/", "/a/", "../", "../../", "../a/", "a/b/", "/a/b/", `a[b="c"]/`, `/a[b="c"]/`, "a/ ", "a/#b", "../../../../../../../../",
		// `..` where none may stand.
		"a/..", "/..", "/../a", "/../..", "/a/..", "a/../b", "../a/..", "../a/../b", "a/b/..", "a/..b", `a[b="c"]/..`, "/ ..", "../../a/..", "/a/../b", "..[b=\"c\"]", "../..[b=\"c\"]/a",
		// Marks and tokens that stand nowhere in a path.
		".", "./a", "a/.", "a/./b", "...", ".../a", "../.", "/.", "a.b", "a|b", "a:b", "a/-b", "a-/b", "-a", "a-", "/-", "a/$b", "$a", "*", "a,b", "{a}", "a;", "/a;", "..;", "/;", "a}", "a(b)", "(a)", "a)", "a]", "/]", "..]", "a<b", "a = b", "a=\"b\"", "a+b", "a != b", "a >= b",
		"1", "/1", "../1", "a/1", "1/a", "1a", "a/1a", "a 1", "/a1 2", `"a"`, `/"a"`, `a/"b"`, `a"b"`, `a "b"`, `"/a"`, `""`, `/""`, `a ""`, `.."a"`,
		"/a /b c", "a/b c/d", "a or b", "a and b", "not(a)", "count(a)", "count(/)", "a/b or", "/a[b=\"c\"] or",
		// No tokens.
		"A", "a/B", "aB", "a_b", "a/&", "&", "a\\b", "\\", "~", "a?", "a'", "a!", "a/\x00", "\xff", "\u00e4", "/a\x7f", "\"", "a/\"b", "a[b='c']", "%",
	} {
		wantNoPathRead(t, s)
	}
}

func TestBracketsOfTests(t *testing.T) {
	for _, s := range []string{
		`a[b="c"`, `a[b=`, `a[b`, `a[`, `a[]`, `a]`, `a[b="c"]]`, `a[[b="c"]]`, `a[[b="c"]`, `a[b="c"][`, `a[b="c"][]`, `a[b="c"][d`, `a[b="c"][d=`, `a[b="c"][d="e"`, `a[b="c"]]d="e"]`, `a[b="c"/d`, `a[b="c"]d="e"]`,
		`a[="c"]`, `a[b"c"]`, `a[b=]`, `a["c"]`, `a[b]`, `a[=]`, `a[b=="c"]`, `a[b!="c"]`, `a[b<="c"]`, `a[b:"c"]`, `a[b="c"="d"]`, `a["b"="c"]`, `a["c"=b]`, `a[="c"b]`, `a[b "c"=]`, `a[b c="d"]`, `a[b="c" "d"]`, `a[b="c",d="e"]`, `a[b="c" and d="e"]`, `a[b="c";]`, `a{b="c"}`, `a(b="c")`, `a<b="c">`,
		`a[b=c]`, `a[b=1]`, `a[b=-1]`, `a[b=c-d]`, `a[b='c']`, `a[b=c"d"]`, `a[b="c"d]`, `a[b=/c]`, `a[b=..]`, `a[b=[]]`, `a[1="c"]`, `a[..="c"]`, `a[/b="c"]`, `a[b/c="d"]`, `a[../b="c"]`, `a[-b="c"]`, `a[b-="c"]`, `a[1b="c"]`, `a[1]`, `a[B="c"]`, `a[b_c="d"]`, `a[.="c"]`, `a[*="c"]`, `a[b[c="d"]="e"]`,
		`[b="c"]`, `/[b="c"]`, `..[b="c"]`, `../[b="c"]`, `a/[b="c"]`, `[b="c"]a`, `[b="c"]/a`, `/[b="c"]a`, `a[b="c"]1`, `a[b="c"]"d"`, `a[b="c"]..`, `a[b="c"]=`, `a[b="c"].`, `a [b="c"] [`, `"a"[b="c"]`, `1[b="c"]`,
		`a[b="c]`, `a[b="c\"]`, `a[b="\c"]`, `a[b="c"d"]`, `a[b="\"]`, `a[b="\\""]`, `a[b="""]`, `a[b=c"]`,
	} {
		for _, form := range []string{s, "/" + s, "../" + s, "z/" + s, s + "/z", "z/" + s + "/z", "z/" + strings.ReplaceAll(s, "[", " [ ")} {
			wantNoPathRead(t, form)
		}
	}
	// All of these are one byte or token away from paths.
	for s, p := range map[string]impl.Path{
		`a[b="c"]`: fromHere(aStep("a", aTest("b", "c"))), `a[b=""]`: fromHere(aStep("a", aTest("b", ""))), `a[b="]"]`: fromHere(aStep("a", aTest("b", "]"))), `a[b="c"][d="e"]`: fromHere(aStep("a", aTest("b", "c"), aTest("d", "e"))), `a[b-c="c-"]`: fromHere(aStep("a", aTest("b-c", "c-"))), `a[b="c"]/d`: fromHere(aStep("a", aTest("b", "c")), aStep("d")),
	} {
		wantPathRead(t, s, p)
	}
}

func TestWrittenPathsThatAreNotValid(t *testing.T) {
	up := strings.Repeat("/..", impl.MaxUps)[1:]
	steps := strings.Repeat("/a", impl.MaxSteps)[1:]
	for _, s := range []string{
		up + "/..", up + "/../..", up + "/../a", up + "/../" + steps, strings.Repeat("../", 256) + "..", strings.Repeat("../", 5000) + "a",
		steps + "/a", "/" + steps + "/a", "../" + steps + "/a", up + "/" + steps + "/a", steps + `/a[b="c"]`, strings.Repeat("a/", 5000) + "a", "/" + strings.Repeat("a/", 5000) + "a",
		`a[b="1"][c="2"][d="3"][e="4"]`, `/a/b[b="1"][c="2"][d="3"][e="4"]/c`, "a" + strings.Repeat(`[b="c"]`, 5000), `a[b="1"][c="2"][d="3"][b="1"]`,
		`a[b="1"][b="1"]`, `a[b="1"][b="2"]`, `a[b="1"][c="2"][b="3"]`, `a[c="1"][b="2"][b="3"]`, `/a[b=""][b=""]`, `../x/a[b="1"][b="2"]/y`,
		"abcdefghijklmnopq", "/abcdefghijklmnopq", "../abcdefghijklmnopq", "a/abcdefghijklmnopq", "abcdefghijklmnopq/a", `abcdefghijklmnopq[b="c"]`, `a[abcdefghijklmnopq="c"]`, `a[b="c"][abcdefghijklmnopq="c"]`, strings.Repeat("a", 5000),
	} {
		wantNoPathRead(t, s)
	}
	for _, s := range stringsThatAreNoTexts() {
		wantNoPathRead(t, "a[b="+impl.QuoteText(s)+"]")
		wantNoPathRead(t, "/a/b[c=\"d\"][e="+impl.QuoteText(s)+"]/f")
	}
	for s, count := range map[string]int{steps: impl.MaxSteps, "/" + steps: impl.MaxSteps, up + "/" + steps: impl.MaxSteps, up: 0, "../" + steps: impl.MaxSteps, `a[b="1"][c="2"][d="3"]`: 1, "abcdefghijklmnop": 1} {
		if p, ok := impl.ParsePath(s); !ok || len(p.Steps) != count {
			t.Errorf("ParsePath(%q) = %s, %t", s, shownPath(p), ok)
		}
	}
}

// Neither words of other layers nor those of expressions mean anything here.
func TestWordsAsNamesInPaths(t *testing.T) {
	for _, s := range []string{"or", "and", "not", "count", "int", "text", "bool", "enum", "ref", "flag", "module", "group", "augment", "box", "list", "leaf", "many", "choice", "case", "uses", "present", "key", "unique", "type", "default", "needed", "fixed", "min", "max", "when", "must", "true", "false"} {
		wantPathRead(t, s, fromHere(aStep(s)))
		wantPathRead(t, "/"+s, fromRoot(aStep(s)))
		wantPathRead(t, "/ "+s, fromRoot(aStep(s)))
		wantPathRead(t, "../"+s, fromAbove(1, aStep(s)))
		wantPathRead(t, "a/"+s, fromHere(aStep("a"), aStep(s)))
		wantPathRead(t, s+"/"+s, fromHere(aStep(s), aStep(s)))
		wantPathRead(t, s+"["+s+"=\""+s+"\"]", fromHere(aStep(s, aTest(s, s))))
		wantNoPathRead(t, s+" "+s)
		wantNoPathRead(t, "a "+s+" b")
		wantNoPathRead(t, s+"(a)")
	}
}

const stepForm = `[ab](?: \[ [ab] = "[^"]*" \])*`

var (
	wholePathForm = regexp.MustCompile(`^(?:/|\.\.(?: / \.\.)*|(?:/ |\.\. / (?:\.\. / )*|)` + stepForm + `(?: / ` + stepForm + `)*)$`)
	oneStepForm   = regexp.MustCompile(`([ab])((?: \[ [ab] = "[^"]*" \])*)(?: /|$)`)
	oneTestForm   = regexp.MustCompile(`\[ ([ab]) = "([^"]*)" \]`)
)

// pathByPatterns reads paths with a and b as their only names and without `\`,
// with a space between any two tokens.
func pathByPatterns(s string) (impl.Path, bool) {
	if !wholePathForm.MatchString(s) {
		return impl.Path{}, false
	}
	p := impl.Path{Root: s[0] == '/', Ups: strings.Count(s, "..")}
	different := true
	for _, step := range oneStepForm.FindAllStringSubmatch(s, -1) {
		tests := []impl.Test{}
		for _, parts := range oneTestForm.FindAllStringSubmatch(step[2], -1) {
			tests = append(tests, aTest(parts[1], parts[2]))
			different = different && strings.Count(step[2], "[ "+parts[1]+" =") == 1
		}
		p.Steps = append(p.Steps, aStep(step[1], tests...))
	}
	return p, different && p.Ups <= impl.MaxUps && len(p.Steps) <= impl.MaxSteps
}

func TestEveryRowOfTokensIsAPathAsPatternsReadIt(t *testing.T) {
	tokens := strings.NewReplacer("/", " /", ".", " ..", "a", " a", "b", " b", "[", " [", "=", " =", "]", " ]", "x", ` "x"`, "1", " 1", "T", ` [ a = "x" ]`, "U", ` [ b = "" ]`)
	rows := []string{}
	for alphabet, size := range map[string]int{"/.a[=]x1": 6, "/.aTU": 7, "/.": 12, "/ab": 9, "/abT": 7, "/aTU": 7} {
		rows = append(rows, shortStrings(alphabet, size)...)
	}
	for i := range 24 {
		rows = append(rows, strings.Repeat("./", i), strings.Repeat("/.", i), strings.Repeat("./", i)+"a", strings.Repeat("a/", i)+"a", "/"+strings.Repeat("a/", i)+"b", "./"+strings.Repeat("aTU/", i)+"a", "../"+strings.Repeat("aU/", i)+"bT")
	}
	read := 0
	for _, row := range rows {
		s := strings.TrimPrefix(tokens.Replace(row), " ")
		want, wantOK := pathByPatterns(s)
		got, ok := impl.ParsePath(s)
		if ok != wantOK || ok && !equalPaths(got, want) || !ok && !equalPaths(got, impl.Path{}) {
			t.Fatalf("ParsePath(%q) = %s, %t, want %s, %t", s, shownPath(got), ok, shownPath(want), wantOK)
		}
		if ok {
			read++
			wantPathWritten(t, want, strings.ReplaceAll(s, " ", ""))
		}
	}
	if read < 400 {
		t.Errorf("only %d of the rows are read", read)
	}
}

// The test above tells which rows of tokens, with spaces between them, are paths.
func TestEveryShortTextIsThePathOfItsTokens(t *testing.T) {
	read := 0
	for _, s := range append(shortStrings("/.ab-# \n", 6), shortStrings("a[=\"]\\/ ", 6)...) {
		want, wantOK := impl.Path{}, false
		if tokens, bad := impl.Lex(s); bad == -1 {
			want, wantOK = impl.ParsePath(impl.JoinTokens(tokens))
		}
		got, ok := impl.ParsePath(s)
		if ok != wantOK || !equalPaths(got, want) {
			t.Fatalf("ParsePath(%q) = %s, %t, want %s, %t", s, shownPath(got), ok, shownPath(want), wantOK)
		}
		if ok {
			read++
		}
	}
	if read < 2000 {
		t.Errorf("only %d of the texts are read", read)
	}
}

func TestPlainPaths(t *testing.T) {
	wantPlain(t, fromRoot(), fromRoot())
	wantPlain(t, fromAbove(3), fromAbove(3))
	wantPlain(t, fromRoot(aStep("user", aTest("name", "a")), aStep("level")), fromRoot(aStep("user"), aStep("level")))
	wantPlain(t, fromAbove(2, aStep("a", testsOf(3)...), aStep("b"), aStep("a", testsOf(1)...)), fromAbove(2, aStep("a"), aStep("b"), aStep("a")))
	for _, p := range append(somePaths(), wrongPaths()...) {
		want := impl.Path{Root: p.Root, Ups: p.Ups}
		hasTests := false
		for _, s := range p.Steps {
			want.Steps = append(want.Steps, aStep(s.Name))
			hasTests = hasTests || len(s.Tests) > 0
		}
		wantPlain(t, p, want)
		wantPlain(t, want, want)
		wantSamePath(t, p, impl.PlainPath(p), !hasTests)
	}
	// A path that is not valid only because of its tests becomes valid.
	wantPath(t, impl.PlainPath(fromHere(aStep("a", testsOf(9)...))), true)
	wantPath(t, impl.PlainPath(fromHere(aStep("A", testsOf(1)...))), false)
	// What else is not valid stays as it is.
	wantPlain(t, impl.Path{}, impl.Path{})
	wantPlain(t, impl.Path{Root: true, Ups: -7, Steps: []impl.Step{{}, aStep("\xff", aTest("", "\n"))}}, impl.Path{Root: true, Ups: -7, Steps: []impl.Step{{}, aStep("\xff")}})
}

func TestPathsShareNoMemory(t *testing.T) {
	for s, want := range pathForms() {
		first, _ := impl.ParsePath(s)
		second, _ := impl.ParsePath(s)
		for _, step := range first.Steps {
			_ = append(step.Tests, aTest("behind", "behind"))
		}
		if !equalPaths(first, want) {
			t.Errorf("ParsePath(%q) shares memory within its result: %s", s, shownPath(first))
		}
		third, _ := impl.ParsePath(s)
		changePath(first)
		changePath(third)
		if !equalPaths(second, want) {
			t.Errorf("ParsePath(%q) shares memory between its results: %s", s, shownPath(second))
		}
		given := copyOfPath(want)
		plain, again := impl.PlainPath(given), impl.PlainPath(given)
		changePath(given)
		changePath(again)
		if !equalPaths(plain, impl.PlainPath(want)) {
			t.Errorf("PlainPath(%s) shares memory: %s", shownPath(want), shownPath(plain))
		}
	}
	p, _ := impl.ParsePath(`a[b="c"]/d[e="f"][g="h"]/i`)
	for i := range p.Steps {
		for j := range cap(p.Steps[i].Tests) {
			p.Steps[i].Tests[:cap(p.Steps[i].Tests)][j] = aTest(names(3)[i], "x")
		}
	}
	if !slices.Equal(p.Steps[0].Tests, []impl.Test{aTest("n0", "x")}) || !slices.Equal(p.Steps[1].Tests, []impl.Test{aTest("n1", "x"), aTest("n1", "x")}) || len(p.Steps[2].Tests) != 0 {
		t.Errorf("the tests of two steps share memory: %s", shownPath(p))
	}
}

// pathsOneApart are different paths of which each differs in one thing from the
// first one.
func pathsOneApart() []impl.Path {
	a, b := aStep("a", aTest("k", "1"), aTest("l", "2")), aStep("b", aTest("k", "1"))
	return []impl.Path{
		fromHere(a, b), fromRoot(a, b), fromAbove(1, a, b), fromAbove(2, a, b), fromAbove(-1, a, b), fromAbove(1<<32, a, b), fromHere(b, a), fromHere(a), fromHere(b), fromHere(), fromHere(a, b, b), fromHere(a, a), fromHere(b, b), fromHere(a, b, aStep("c")), fromHere(a, b, aStep("")), fromHere(aStep("c"), a, b), {Root: true, Ups: 1, Steps: []impl.Step{a, b}},
		fromHere(aStep("c", a.Tests...), b), fromHere(a, aStep("a", b.Tests...)), fromHere(a, aStep("", b.Tests...)), fromHere(a, aStep("B", b.Tests...)), fromHere(aStep("a"), b), fromHere(a, aStep("b")), fromHere(aStep("a"), aStep("b")), fromHere(aStep("a", aTest("k", "1")), b), fromHere(aStep("a", aTest("l", "2")), b), fromHere(aStep("a", aTest("l", "2"), aTest("k", "1")), b),
		fromHere(aStep("a", aTest("k", "1"), aTest("l", "2"), aTest("m", "3")), b), fromHere(aStep("a", aTest("k", "1"), aTest("l", "2"), aTest("", "")), b), fromHere(aStep("a", aTest("k", "1"), aTest("k", "2")), b), fromHere(aStep("a", aTest("k", "1"), aTest("l", "1")), b), fromHere(aStep("a", aTest("k", "1"), aTest("l", "")), b), fromHere(aStep("a", aTest("k", "2"), aTest("l", "1")), b), fromHere(aStep("a", aTest("k", "1"), aTest("m", "2")), b), fromHere(aStep("a", aTest("m", "1"), aTest("l", "2")), b), fromHere(aStep("a", aTest("k", "2"), aTest("l", "2")), b),
		fromHere(a, aStep("b", aTest("k", "2"))), fromHere(a, aStep("b", aTest("k", ""))), fromHere(a, aStep("b", aTest("k", "1 "))), fromHere(a, aStep("b", aTest("k", "01"))), fromHere(a, aStep("b", aTest("", "1"))), fromHere(a, aStep("b", aTest("k", "1"), aTest("k", "1"))), fromHere(a, aStep("b", aTest("l", "1"))), fromHere(aStep("a", aTest("k", "1")), aStep("b", aTest("l", "2"), aTest("k", "1"))),
		fromRoot(), fromAbove(1), fromAbove(2), fromRoot(a), {Root: true, Ups: 1}, fromHere(aStep("")),
	}
}

func TestSamePaths(t *testing.T) {
	l := pathsOneApart()
	for i, a := range l {
		for j, b := range l {
			wantSamePath(t, a, b, i == j)
		}
	}
	// What is empty is as good as nil.
	for _, a := range []impl.Path{{}, fromRoot(), fromAbove(2), {Root: true, Ups: 2}} {
		b := a
		b.Steps = []impl.Step{}
		if !impl.SamePath(a, b) || !impl.SamePath(b, a) || !impl.SamePath(a, a) {
			t.Errorf("SamePath(%s, %s) = false", shownPath(a), shownPath(b))
		}
	}
	if !impl.SamePath(fromHere(impl.Step{Name: "a"}), fromHere(impl.Step{Name: "a", Tests: []impl.Test{}})) {
		t.Error("no tests and an empty list of tests are not the same")
	}
	for _, p := range append(somePaths(), wrongPaths()...) {
		wantSamePath(t, p, p, true)
		wantSamePath(t, p, fromRoot(aStep("other", aTest("k", "1"))), false)
	}
}

// Paths are the same just if they are written alike.
func TestSamePathsAreWrittenAlike(t *testing.T) {
	l := somePaths()
	for i, a := range l {
		for _, b := range l[i:min(len(l), i+120)] {
			if want := impl.FormatPath(a) == impl.FormatPath(b); impl.SamePath(a, b) != want {
				t.Errorf("SamePath(%s, %s) = %t", shownPath(a), shownPath(b), !want)
			}
		}
	}
}

func TestLongPathsEnd(t *testing.T) {
	inTime(t, "long paths", func() {
		many := fromRoot(stepsWithout(200000)...)
		full := fromHere(aStep("a", testsOf(200000)...))
		for _, p := range []impl.Path{many, full, fromHere(aStep(strings.Repeat("a", 1000000))), fromHere(aStep("a", aTest("b", strings.Repeat("x", 1000000)))), fromAbove(math.MaxInt)} {
			wantPath(t, p, false)
			wantPathWritten(t, p, "")
			wantSamePath(t, p, p, true)
			wantSamePath(t, p, impl.PlainPath(p), equalPaths(p, impl.PlainPath(p)))
		}
		if got := len(impl.PlainPath(many).Steps); got != 200000 {
			t.Errorf("PlainPath leaves %d steps", got)
		}
	})
	inTime(t, "long texts", func() {
		for _, part := range []string{"/a", "../", "..", "/", "a", "a/", "[", "]", `[b="c"]`, `a[b="c"]/`, "a[", "a[b=", `"`, `""`, "1"} {
			wantNoPathRead(t, strings.Repeat(part, 200000))
			wantNoPathRead(t, "a"+strings.Repeat(part, 200000))
		}
		wantNoPathRead(t, `a[b="`+strings.Repeat("x", 1000000)+`"]`)
		wantPathRead(t, strings.Repeat(" ", 1000000)+"/", fromRoot())
		wantPathRead(t, ".."+strings.Repeat("#\n", 500000)+"/a", fromAbove(1, aStep("a")))
	})
}
