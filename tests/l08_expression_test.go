package tests

import (
	"fmt"
	"math"
	"math/rand/v2"
	"regexp"
	"slices"
	"strconv"
	"strings"
	"testing"

	"loop.example/g03013/impl"
)

func exNum(n int) impl.Expr {
	return impl.Expr{Op: impl.ExNum, Num: n}
}

func exText(s string) impl.Expr {
	return impl.Expr{Op: impl.ExText, Text: s}
}

func exPath(p impl.Path) impl.Expr {
	return impl.Expr{Op: impl.ExPath, Path: p}
}

func exCount(p impl.Path) impl.Expr {
	return impl.Expr{Op: impl.ExCount, Path: p}
}

func exOf(op int, kids ...impl.Expr) impl.Expr {
	return impl.Expr{Op: op, Kids: kids}
}

func exNot(kid impl.Expr) impl.Expr {
	return exOf(impl.ExNot, kid)
}

// exName is the path of steps with just these names.
func exName(steps ...string) impl.Expr {
	p := impl.Path{}
	for _, s := range steps {
		p.Steps = append(p.Steps, aStep(s))
	}
	return exPath(p)
}

// A twoSided is an operator with two sides, with its level and those that the
// places on its left and on its right demand.
type twoSided struct {
	op    int
	sign  string
	level int
	left  int
	right int
}

const itemLevel = 5

var everyTwoSided = []twoSided{
	{impl.ExOr, "or", 1, 1, 2}, {impl.ExAnd, "and", 2, 2, 3},
	{impl.ExEq, "=", 3, 4, 4}, {impl.ExNe, "!=", 3, 4, 4}, {impl.ExLt, "<", 3, 4, 4}, {impl.ExLe, "<=", 3, 4, 4}, {impl.ExGt, ">", 3, 4, 4}, {impl.ExGe, ">=", 3, 4, 4},
	{impl.ExAdd, "+", 4, 4, 5}, {impl.ExSub, "-", 4, 4, 5},
}

func twoSidedOf(op int) twoSided {
	for _, o := range everyTwoSided {
		if o.op == op {
			return o
		}
	}
	return twoSided{level: itemLevel}
}

func twoSidedBy(sign string) twoSided {
	for _, o := range everyTwoSided {
		if o.sign == sign {
			return o
		}
	}
	return twoSided{level: itemLevel}
}

// kidsOf is the number of kids that an Op wants.
func kidsOf(op int) int {
	switch {
	case op == impl.ExNot:
		return 1
	case twoSidedOf(op).level < itemLevel:
		return 2
	}
	return 0
}

// oneOfEveryOp are valid expressions, at the places of their Ops; the place 0
// has none.
func oneOfEveryOp() []impl.Expr {
	l := []impl.Expr{{}, exNum(7), exText("x"), exName("a"), exCount(fromRoot()), exNot(exName("a"))}
	for _, o := range everyTwoSided {
		l = append(l, exOf(o.op, exName("a"), exNum(1)))
	}
	return l
}

// exprForms are valid expressions, by how FormatExpr writes them.
func exprForms() map[string]impl.Expr {
	a, b, c, d := exName("a"), exName("b"), exName("c"), exName("d")
	forms := map[string]impl.Expr{
		"0": exNum(0), "7": exNum(7), "1000000000": exNum(impl.MaxNumber), `""`: exText(""), `"x"`: exText("x"), `"\"\\"`: exText(`"\`), `"a or b"`: exText("a or b"), `"("`: exText("("), `"#"`: exText("#"), `"-7"`: exText("-7"),
		"count(/)": exCount(fromRoot()), "count(..)": exCount(fromAbove(1)), "count(or)": exCount(fromHere(aStep("or"))), "count(and/or)": exCount(fromHere(aStep("and"), aStep("or"))), "count(count)": exCount(fromHere(aStep("count"))), `count(/a[b=")"]/c)`: exCount(fromRoot(aStep("a", aTest("b", ")")), aStep("c"))),
		"not(a)": exNot(a), "not(not(a))": exNot(exNot(a)), "not(a or b)": exNot(exOf(impl.ExOr, a, b)), "not(a = b)": exNot(exOf(impl.ExEq, a, b)), "not(1)": exNot(exNum(1)), "not(not)": exNot(exName("not")), "not(count(not))": exNot(exCount(fromHere(aStep("not")))),
		"not(a) and not(b)": exOf(impl.ExAnd, exNot(a), exNot(b)), "not(a) = count(b) + 1": exOf(impl.ExEq, exNot(a), exOf(impl.ExAdd, exCount(fromHere(aStep("b"))), exNum(1))),
		"a or b and not(c = 1 + 2 - 3)": exOf(impl.ExOr, a, exOf(impl.ExAnd, b, exNot(exOf(impl.ExEq, c, exOf(impl.ExSub, exOf(impl.ExAdd, exNum(1), exNum(2)), exNum(3)))))),
		"(a or b) and 1 - (2 - 3)":      exOf(impl.ExAnd, exOf(impl.ExOr, a, b), exOf(impl.ExSub, exNum(1), exOf(impl.ExSub, exNum(2), exNum(3)))),
		"a or b or c or d":              exOf(impl.ExOr, exOf(impl.ExOr, exOf(impl.ExOr, a, b), c), d),
		"a or (b or (c or d))":          exOf(impl.ExOr, a, exOf(impl.ExOr, b, exOf(impl.ExOr, c, d))),
		"a and b or c and d":            exOf(impl.ExOr, exOf(impl.ExAnd, a, b), exOf(impl.ExAnd, c, d)),
		"(a or b) and (c or d)":         exOf(impl.ExAnd, exOf(impl.ExOr, a, b), exOf(impl.ExOr, c, d)),
		"a and b and (c and d)":         exOf(impl.ExAnd, exOf(impl.ExAnd, a, b), exOf(impl.ExAnd, c, d)),
		"(a = b) = (c = d)":             exOf(impl.ExEq, exOf(impl.ExEq, a, b), exOf(impl.ExEq, c, d)),
		"(a < b) >= c":                  exOf(impl.ExGe, exOf(impl.ExLt, a, b), c),
		"a + b = c - d":                 exOf(impl.ExEq, exOf(impl.ExAdd, a, b), exOf(impl.ExSub, c, d)),
		"a + (b = c) - d":               exOf(impl.ExSub, exOf(impl.ExAdd, a, exOf(impl.ExEq, b, c)), d),
		"a - b - c - d":                 exOf(impl.ExSub, exOf(impl.ExSub, exOf(impl.ExSub, a, b), c), d),
		"a - (b + c) + (c - d)":         exOf(impl.ExAdd, exOf(impl.ExSub, a, exOf(impl.ExAdd, b, c)), exOf(impl.ExSub, c, d)),
		"a != b and b < c or c <= d":    exOf(impl.ExOr, exOf(impl.ExAnd, exOf(impl.ExNe, a, b), exOf(impl.ExLt, b, c)), exOf(impl.ExLe, c, d)),
		"not = count":                   exOf(impl.ExEq, exName("not"), exName("count")),
		"/or or ../and and a/or":        exOf(impl.ExOr, exPath(fromRoot(aStep("or"))), exOf(impl.ExAnd, exPath(fromAbove(1, aStep("and"))), exName("a", "or"))),
		`a[b="="] = "="`:                exOf(impl.ExEq, exPath(fromHere(aStep("a", aTest("b", "=")))), exText("=")),
		".. - ../..":                    exOf(impl.ExSub, exPath(fromAbove(1)), exPath(fromAbove(2))),
	}
	for s, p := range pathForms() {
		forms["count("+s+")"] = exCount(p)
		if !isNoItem(s) {
			forms[s], forms["not("+s+")"], forms[s+" = 1"], forms["1 - "+s], forms[s+" or "+s] = exPath(p), exNot(exPath(p)), exOf(impl.ExEq, exPath(p), exNum(1)), exOf(impl.ExSub, exNum(1), exPath(p)), exOf(impl.ExOr, exPath(p), exPath(p))
		}
	}
	return forms
}

var operatorFirst = regexp.MustCompile(`^(or|and)([/\[]|$)`)

// isNoItem tells of a written valid path whether it may stand within `count`
// alone.
func isNoItem(path string) bool {
	return path == "/" || operatorFirst.MatchString(path)
}

// smallExprs are valid expressions: every operator with kids of every Op on
// both sides, and with every two operators below each other.
func smallExprs() []impl.Expr {
	a, b, one := exName("a"), exName("b", "c"), exNum(1)
	l := append(oneOfEveryOp()[1:], exNot(exNot(one)), exCount(fromHere(aStep("or"))))
	kids := slices.Clone(l)
	for _, o := range everyTwoSided {
		for _, x := range kids {
			l = append(l, exNot(exOf(o.op, x, a)))
			for _, y := range kids {
				l = append(l, exOf(o.op, x, y))
			}
		}
		for _, x := range everyTwoSided {
			for _, y := range everyTwoSided {
				l = append(l, exOf(o.op, exOf(x.op, exOf(y.op, a, b), one), a), exOf(o.op, exOf(x.op, a, exOf(y.op, b, one)), a), exOf(o.op, a, exOf(x.op, exOf(y.op, a, b), one)), exOf(o.op, a, exOf(x.op, a, exOf(y.op, b, one))))
			}
		}
	}
	return l
}

// mixedExprs are valid expressions of every depth; they are the same in each
// run.
func mixedExprs(count int) []impl.Expr {
	source := rand.New(rand.NewPCG(8, 8))
	paths := slices.DeleteFunc(somePaths(), func(p impl.Path) bool { return isNoItem(impl.FormatPath(p)) })
	slices.SortFunc(paths, func(a impl.Path, b impl.Path) int {
		return strings.Compare(impl.FormatPath(a), impl.FormatPath(b))
	})
	var grow func(depth int) impl.Expr
	grow = func(depth int) impl.Expr {
		op := 1 + source.IntN(impl.ExSub)
		if depth == 1 || source.IntN(9) == 0 {
			op = 1 + source.IntN(impl.ExCount)
		}
		switch op {
		case impl.ExNum:
			return exNum(source.IntN(impl.MaxNumber + 1))
		case impl.ExText:
			return exText(strings.Repeat(`x"\ `, source.IntN(4)))
		case impl.ExPath, impl.ExCount:
			return impl.Expr{Op: op, Path: paths[source.IntN(len(paths))]}
		case impl.ExNot:
			return exNot(grow(depth - 1))
		}
		return exOf(op, grow(depth-1), grow(depth-1))
	}
	l := []impl.Expr{}
	for i := range count {
		l = append(l, grow(1+i%impl.MaxDeep))
	}
	return l
}

// chain is e within so many operators: `not`, or the left or right side of `or`.
func chain(way string, count int, e impl.Expr) impl.Expr {
	for range count {
		switch way {
		case "not":
			e = exNot(e)
		case "left":
			e = exOf(impl.ExOr, e, exNum(1))
		case "right":
			e = exOf(impl.ExOr, exNum(1), e)
		}
	}
	return e
}

// fullExpr has two kids everywhere, down to its depth, and there the leaves,
// again and again.
func fullExpr(depth int, leaves ...impl.Expr) impl.Expr {
	place := 0
	var grow func(depth int) impl.Expr
	grow = func(depth int) impl.Expr {
		if depth == 1 {
			place++
			return leaves[(place-1)%len(leaves)]
		}
		left := grow(depth - 1)
		return exOf(impl.ExAdd, left, grow(depth-1))
	}
	return grow(depth)
}

// withinItself are expressions whose kids lead back to themselves: they have
// no end.
func withinItself() []impl.Expr {
	one := []impl.Expr{{Op: impl.ExNot}}
	one[0].Kids = one
	two := []impl.Expr{exName("a"), {Op: impl.ExAnd}}
	two[1].Kids = two
	both := []impl.Expr{{Op: impl.ExOr}, {Op: impl.ExOr}}
	both[0].Kids, both[1].Kids = both, both
	far := []impl.Expr{exNot(exNot(exOf(impl.ExOr, exName("b"), exNot(exNum(1)))))}
	far[0].Kids[0].Kids[0].Kids[1].Kids = far
	return []impl.Expr{one[0], exNot(one[0]), two[1], exOf(impl.ExOr, two...), exOf(impl.ExOr, exName("c"), two[1]), both[0], exNot(both[1]), far[0], exOf(impl.ExEq, far[0], far[0])}
}

func shownExpr(e impl.Expr) string {
	return fmt.Sprintf("%.400s", fmt.Sprintf("%+v", e))
}

// equalExprs compares without the help of the functions that are tested.
func equalExprs(a impl.Expr, b impl.Expr) bool {
	return a.Op == b.Op && a.Num == b.Num && a.Text == b.Text && equalPaths(a.Path, b.Path) && slices.EqualFunc(a.Kids, b.Kids, equalExprs)
}

// copyOfExpr has one more kid behind the kids of each part, and more behind the
// parts of its paths, which no function may touch.
func copyOfExpr(e impl.Expr) impl.Expr {
	kids := []impl.Expr{}
	for _, kid := range e.Kids {
		kids = append(kids, copyOfExpr(kid))
	}
	e.Kids = append(kids, exText("spare"))[:len(kids)]
	e.Path = copyOfPath(e.Path)
	return e
}

// changeExpr writes to all memory of e, and to what is behind it.
func changeExpr(e impl.Expr) {
	for _, kid := range e.Kids {
		changeExpr(kid)
	}
	all := e.Kids[:cap(e.Kids)]
	for i := range all {
		all[i] = exText("changed")
	}
	changePath(e.Path)
}

// wantUntouchedExpr is for an e that comes from copyOfExpr(before).
func wantUntouchedExpr(t *testing.T, name string, e impl.Expr, before impl.Expr) {
	t.Helper()
	if len(e.Kids) != len(before.Kids) || e.Op != before.Op || e.Num != before.Num || e.Text != before.Text {
		t.Fatalf("%s changed its argument from %s to %s", name, shownExpr(before), shownExpr(e))
	}
	wantUntouchedPath(t, name, e.Path, before.Path)
	if behind := e.Kids[:len(e.Kids)+1][len(e.Kids)]; !equalExprs(behind, exText("spare")) {
		t.Errorf("%s changed the memory behind the kids of %s to %s", name, shownExpr(before), shownExpr(behind))
	}
	for i, kid := range e.Kids {
		wantUntouchedExpr(t, name, kid, before.Kids[i])
	}
}

// wantExpr is also about FormatExpr, which writes just the valid expressions.
func wantExpr(t *testing.T, e impl.Expr, want bool) {
	t.Helper()
	given := copyOfExpr(e)
	if got := impl.IsExpr(given); got != want {
		t.Errorf("IsExpr(%s) = %t", shownExpr(e), got)
	}
	wantUntouchedExpr(t, "IsExpr", given, e)
	if got := impl.FormatExpr(given); (got != "") != want {
		t.Errorf("FormatExpr(%s) = %.200q", shownExpr(e), got)
	}
	wantUntouchedExpr(t, "FormatExpr", given, e)
}

func wantExprWritten(t *testing.T, e impl.Expr, want string) {
	t.Helper()
	given := copyOfExpr(e)
	if got := impl.FormatExpr(given); got != want {
		t.Errorf("FormatExpr(%s) = %.300q, want %.300q", shownExpr(e), got, want)
	}
	wantUntouchedExpr(t, "FormatExpr", given, e)
}

func wantExprRead(t *testing.T, s string, want impl.Expr) {
	t.Helper()
	if got, ok := impl.ParseExpr(s); !ok || !equalExprs(got, want) {
		t.Errorf("ParseExpr(%.300q) = %s, %t, want %s, true", s, shownExpr(got), ok, shownExpr(want))
	}
}

func wantNoExprRead(t *testing.T, s string) {
	t.Helper()
	if got, ok := impl.ParseExpr(s); ok || !equalExprs(got, impl.Expr{}) {
		t.Errorf("ParseExpr(%.300q) = %s, %t, want the zero Expr, false", s, shownExpr(got), ok)
	}
}

// wantPaths also changes the result, which must not show in the argument.
func wantPaths(t *testing.T, e impl.Expr, want ...impl.Path) {
	t.Helper()
	given := copyOfExpr(e)
	got := impl.PathsOf(given)
	if !slices.EqualFunc(got, want, equalPaths) {
		t.Errorf("PathsOf(%s) = %.300s, want %.300s", shownExpr(e), fmt.Sprint(got), fmt.Sprint(want))
	}
	for _, p := range got {
		changePath(p)
	}
	_ = append(got, fromRoot())
	wantUntouchedExpr(t, "PathsOf", given, e)
}

// tokenTexts are the texts of the tokens of s.
func tokenTexts(s string) []string {
	l := []string{}
	tokens, _ := impl.Lex(s)
	for _, token := range tokens {
		l = append(l, impl.TokenText(token))
	}
	return l
}

func tokenCount(t *testing.T, s string) int {
	t.Helper()
	tokens, bad := impl.Lex(s)
	if bad != -1 {
		t.Fatalf("Lex(%.300q) = %d", s, bad)
	}
	return len(tokens)
}

func TestExprConstants(t *testing.T) {
	ops := []int{impl.ExNum, impl.ExText, impl.ExPath, impl.ExCount, impl.ExNot, impl.ExOr, impl.ExAnd, impl.ExEq, impl.ExNe, impl.ExLt, impl.ExLe, impl.ExGt, impl.ExGe, impl.ExAdd, impl.ExSub}
	for i, op := range ops {
		if op != i+1 {
			t.Errorf("the Op at the place %d is %d", i, op)
		}
	}
	if len(ops) != 15 || impl.MaxDeep != 8 {
		t.Error(len(ops), impl.MaxDeep)
	}
}

func TestValidExprs(t *testing.T) {
	for _, e := range exprForms() {
		wantExpr(t, e, true)
	}
	for _, e := range append(smallExprs(), mixedExprs(800)...) {
		if !impl.IsExpr(e) {
			t.Errorf("IsExpr(%s) = false", shownExpr(e))
		}
	}
	for op, e := range oneOfEveryOp() {
		wantExpr(t, e, op > 0)
		// What is empty may be nil or not.
		e.Path.Steps = append([]impl.Step{}, e.Path.Steps...)
		e.Kids = append([]impl.Expr{}, e.Kids...)
		if impl.IsExpr(e) != (op > 0) {
			t.Errorf("IsExpr(%s) = %t", shownExpr(e), op == 0)
		}
	}
	if impl.IsExpr(impl.Expr{}) || impl.FormatExpr(impl.Expr{}) != "" {
		t.Error("the zero Expr is valid")
	}
}

func TestKidsOfEveryOp(t *testing.T) {
	kid := exName("a")
	for op, e := range oneOfEveryOp() {
		for _, count := range []int{0, 1, 2, 3, 4, 200} {
			e.Kids = slices.Repeat([]impl.Expr{kid}, count)
			wantExpr(t, e, op > 0 && count == kidsOf(op))
		}
	}
	// Each kid must be valid.
	for _, wrong := range []impl.Expr{{}, exNum(-1), exText("\n"), exPath(fromRoot()), exCount(impl.Path{}), {Op: 16}, exOf(impl.ExNot), exOf(impl.ExOr, kid), exNot(exNum(-1)), exOf(impl.ExEq, kid, exOf(impl.ExAdd, exNum(-1), kid))} {
		wantExpr(t, wrong, false)
		wantExpr(t, exNot(wrong), false)
		for _, o := range everyTwoSided {
			wantExpr(t, exOf(o.op, wrong, kid), false)
			wantExpr(t, exOf(o.op, kid, wrong), false)
			wantExpr(t, exOf(o.op, wrong, wrong), false)
			wantExpr(t, exNot(exOf(o.op, kid, exNot(wrong))), false)
		}
	}
}

func TestOpsThatAreNone(t *testing.T) {
	for _, op := range []int{0, -1, -2, -5, -15, -16, 16, 17, 18, 30, 100, 256, 257, 1<<32 + impl.ExNum, 1<<32 + impl.ExOr, math.MaxInt, math.MinInt} {
		for _, kind := range oneOfEveryOp() {
			kind.Op = op
			wantExpr(t, kind, false)
			for count := range 4 {
				kind.Kids = slices.Repeat([]impl.Expr{exNum(1)}, count)
				wantExpr(t, kind, false)
			}
		}
	}
}

func TestFieldsThatAreNotMentionedForAnOp(t *testing.T) {
	for op, e := range oneOfEveryOp()[1:] {
		op++
		for _, n := range []int{1, -1, impl.MaxNumber, math.MinInt} {
			other := e
			other.Num = n
			wantExpr(t, other, op == impl.ExNum && n > 0)
		}
		for _, s := range []string{"x", " ", "0", "\n", "or"} {
			other := e
			other.Text = s
			wantExpr(t, other, op == impl.ExText && s != "\n")
		}
		for _, p := range []impl.Path{fromRoot(aStep("a")), fromRoot(), fromAbove(1), fromAbove(-1), fromHere(aStep("a")), fromHere(aStep("")), fromHere(impl.Step{Tests: testsOf(1)})} {
			other := e
			other.Path = p
			wantExpr(t, other, op == impl.ExCount && impl.IsPath(p) || op == impl.ExPath && impl.IsPath(p) && impl.FormatPath(p) != "/")
		}
		for _, kid := range []impl.Expr{{}, e, exNum(1)} {
			other := e
			other.Kids = append(slices.Clone(e.Kids), kid)
			wantExpr(t, other, false)
		}
	}
}

func TestNumbersInExprs(t *testing.T) {
	for n, want := range map[int]bool{
		0: true, 1: true, 9: true, 10: true, 99999999: true, impl.MaxNumber - 1: true, impl.MaxNumber: true,
		-1: false, -2: false, -impl.MaxNumber: false, impl.MaxNumber + 1: false, impl.MaxNumber + 2: false, 1 << 32: false, 1<<32 + 1: false, math.MaxInt: false, math.MinInt: false,
	} {
		for _, e := range []impl.Expr{exNum(n), exNot(exNum(n)), exOf(impl.ExSub, exNum(n), exNum(1)), exOf(impl.ExSub, exNum(1), exNum(n))} {
			wantExpr(t, e, want)
		}
		if want {
			wantExprWritten(t, exNum(n), strconv.Itoa(n))
			wantExprRead(t, strconv.Itoa(n), exNum(n))
		}
	}
}

func TestTextsInExprs(t *testing.T) {
	for _, s := range []string{"", "x", " ", `"`, `\`, `\"`, "~", "a or b", "()", "-1", "[", "#", strings.Repeat("x", impl.MaxText), strings.Repeat(`"`, impl.MaxText)} {
		wantExpr(t, exText(s), true)
		wantExprWritten(t, exText(s), impl.QuoteText(s))
		wantExprRead(t, impl.QuoteText(s), exText(s))
		wantExprWritten(t, exOf(impl.ExEq, exText(s), exNot(exText(s))), impl.QuoteText(s)+" = not("+impl.QuoteText(s)+")")
	}
	for _, s := range stringsThatAreNoTexts() {
		wantExpr(t, exText(s), false)
		wantNoExprRead(t, impl.QuoteText(s))
		wantNoExprRead(t, "a = "+impl.QuoteText(s))
		wantNoExprRead(t, "not("+impl.QuoteText(s)+")")
	}
	for b := range 256 {
		s := oneByte(b)
		wantExpr(t, exText(s), b >= 32 && b <= 126)
		wantExpr(t, exText("x"+s+"x"), b >= 32 && b <= 126)
	}
}

func TestPathsInExprs(t *testing.T) {
	for s, p := range pathForms() {
		wantExpr(t, exCount(p), true)
		wantExpr(t, exPath(p), !isNoItem(s))
		wantExpr(t, exOf(impl.ExEq, exPath(p), exCount(p)), !isNoItem(s))
		wantExprRead(t, "count("+s+")", exCount(p))
		if isNoItem(s) {
			wantNoExprRead(t, s)
			wantNoExprRead(t, "not("+s+")")
			wantNoExprRead(t, s+" = 1")
			wantNoExprRead(t, "1 = "+s)
		} else {
			wantExprRead(t, s, exPath(p))
		}
	}
	for _, p := range somePaths() {
		wantExpr(t, exCount(p), true)
	}
	for _, p := range wrongPaths() {
		wantExpr(t, exPath(p), false)
		wantExpr(t, exCount(p), false)
		wantExpr(t, exOf(impl.ExAdd, exName("a"), exCount(p)), false)
	}
	wantExpr(t, exPath(fromRoot()), false)
	wantExpr(t, exPath(impl.Path{Root: true, Steps: []impl.Step{}}), false)
	wantExpr(t, exCount(impl.Path{Root: true, Steps: []impl.Step{}}), true)
	wantExpr(t, exPath(fromAbove(1)), true)
	wantExpr(t, exPath(fromAbove(impl.MaxUps)), true)
}

// Only at its beginning, and only as a name, a word keeps a path from standing
// alone.
func TestWordsInPathsOfExprs(t *testing.T) {
	for word, isOperator := range map[string]bool{"or": true, "and": true, "not": false, "count": false, "o": false, "a": false, "an": false, "orx": false, "or-1": false, "andy": false, "nor": false, "xor": false, "band": false, "or1": false, "true": false, "and-or": false} {
		tests := []impl.Test{aTest("or", "and")}
		for _, step := range []impl.Step{aStep(word), aStep(word, tests...), aStep(word, testsOf(impl.MaxTests)...)} {
			wantExpr(t, exPath(fromHere(step)), !isOperator)
			wantExpr(t, exPath(fromHere(step, aStep("a"))), !isOperator)
			wantExpr(t, exPath(fromHere(step, aStep("or"))), !isOperator)
			for _, p := range []impl.Path{fromRoot(step), fromAbove(1, step), fromAbove(impl.MaxUps, step), fromHere(aStep("a"), step), fromHere(aStep("not"), step), fromHere(aStep("a"), aStep("b"), step), fromRoot(step, aStep("or"))} {
				wantExpr(t, exPath(p), true)
				wantExprRead(t, impl.FormatPath(p), exPath(p))
				wantExprRead(t, impl.FormatPath(p)+" or "+impl.FormatPath(p), exOf(impl.ExOr, exPath(p), exPath(p)))
			}
			wantExpr(t, exCount(fromHere(step)), true)
			wantExpr(t, exCount(fromHere(step, aStep("a"))), true)
		}
		wantExpr(t, exPath(fromHere(aStep("a", aTest(word, word)))), true)
		wantExpr(t, exText(word), true)
	}
}

func TestDepthOfExprs(t *testing.T) {
	for _, way := range []string{"not", "left", "right"} {
		for count := range 12 {
			depth := count + 1
			for _, leaf := range []impl.Expr{exNum(1), exText(""), exName("a"), exCount(fromRoot())} {
				wantExpr(t, chain(way, count, leaf), depth <= impl.MaxDeep)
			}
			// What is deepest must be valid, too.
			wantExpr(t, chain(way, count, exNum(-1)), false)
			wantExpr(t, chain(way, count, impl.Expr{}), false)
		}
	}
	for depth := 1; depth <= 10; depth++ {
		wantExpr(t, fullExpr(depth, exNum(1), exName("a")), depth <= impl.MaxDeep)
	}
	// Just one leaf is too deep, or wrong.
	for place := range 64 {
		leaves := slices.Repeat([]impl.Expr{exName("a")}, 64)
		leaves[place] = exNot(exName("a"))
		wantExpr(t, fullExpr(impl.MaxDeep-1, leaves...), true)
		leaves[place] = exNot(exNot(exName("a")))
		wantExpr(t, fullExpr(impl.MaxDeep-1, leaves...), false)
		leaves[place] = exName("or")
		wantExpr(t, fullExpr(impl.MaxDeep-1, leaves...), false)
	}
}

func TestWrittenExprs(t *testing.T) {
	for s, e := range exprForms() {
		wantExprWritten(t, e, s)
		wantExprRead(t, s, e)
	}
}

// writtenByLevels writes an expression as the levels in the table demand; with
// all, it sets brackets around every kid.
func writtenByLevels(e impl.Expr, all bool) string {
	o := twoSidedOf(e.Op)
	kid := func(i int, demand int) string {
		s := writtenByLevels(e.Kids[i], all)
		if all || twoSidedOf(e.Kids[i].Op).level < demand {
			return "(" + s + ")"
		}
		return s
	}
	switch e.Op {
	case impl.ExNum:
		return strconv.Itoa(e.Num)
	case impl.ExText:
		return `"` + strings.NewReplacer(`"`, `\"`, `\`, `\\`).Replace(e.Text) + `"`
	case impl.ExPath:
		return impl.FormatPath(e.Path)
	case impl.ExCount:
		return "count(" + impl.FormatPath(e.Path) + ")"
	case impl.ExNot:
		return "not(" + kid(0, 0) + ")"
	}
	return kid(0, o.left) + " " + o.sign + " " + kid(1, o.right)
}

func TestExprsThatAreWrittenAreReadAgain(t *testing.T) {
	long, short := 0, 0
	for _, e := range append(smallExprs(), mixedExprs(4000)...) {
		s := writtenByLevels(e, false)
		wantExprWritten(t, e, s)
		if tokenCount(t, s) > 200 {
			wantNoExprRead(t, s)
			long++
			continue
		}
		wantExprRead(t, s, e)
		short++
		// More brackets than are needed change nothing.
		for _, more := range []string{writtenByLevels(e, true), "(" + s + ")", "((" + writtenByLevels(e, true) + "))"} {
			if tokenCount(t, more) <= 200 {
				wantExprRead(t, more, e)
			}
		}
	}
	if long < 100 || short < 5000 {
		t.Errorf("%d expressions are too long, %d are not", long, short)
	}
}

// withoutPair leaves out the `(` at the place, and the `)` that belongs to it;
// s has no quoted texts.
func withoutPair(s string, at int) string {
	open := 0
	for i := at; i < len(s); i++ {
		switch s[i] {
		case '(':
			open++
		case ')':
			open--
		}
		if open == 0 {
			return s[:at] + " " + s[at+1:i] + " " + s[i+1:]
		}
	}
	return s
}

func TestNoBracketsMayBeLeftOut(t *testing.T) {
	pairs := 0
	for _, e := range smallExprs() {
		s := impl.FormatExpr(e)
		if strings.Contains(s, `"`) {
			continue
		}
		for at := range len(s) {
			if s[at] != '(' {
				continue
			}
			pairs++
			if got, ok := impl.ParseExpr(withoutPair(s, at)); ok && equalExprs(got, e) {
				t.Errorf("%q has brackets that it does not need", s)
			}
		}
	}
	if pairs < 2000 {
		t.Errorf("only %d pairs of brackets were tried", pairs)
	}
}

func TestBlanksAndRemarksInExprs(t *testing.T) {
	for s, e := range exprForms() {
		parts := tokenTexts(s)
		for _, between := range []string{" ", "  ", "\n", " \n ", "#\n", " # or (a = \"b\n", "#\n#)\n\n"} {
			spread := strings.Join(parts, between)
			for _, form := range []string{spread, between + spread + between, spread + "#", "\n" + s + " # or a"} {
				wantExprRead(t, form, e)
			}
		}
	}
	a, b, one, two := exName("a"), exName("b"), exNum(1), exNum(2)
	for s, e := range map[string]impl.Expr{
		"a+b": exOf(impl.ExAdd, a, b), "1+2": exOf(impl.ExAdd, one, two), "1-2": exOf(impl.ExSub, one, two), "a- 1": exOf(impl.ExSub, a, one), "a -1": exOf(impl.ExSub, a, one), "a-1": exName("a-1"), "a-b": exName("a-b"), "1-a": exOf(impl.ExSub, one, a), "..-1": exOf(impl.ExSub, exPath(fromAbove(1)), one), "1a": {},
		"a=b": exOf(impl.ExEq, a, b), "a!=b": exOf(impl.ExNe, a, b), "a<b": exOf(impl.ExLt, a, b), "a<=b": exOf(impl.ExLe, a, b), "a>b": exOf(impl.ExGt, a, b), "a>=b": exOf(impl.ExGe, a, b), "a<=1-b": exOf(impl.ExLe, a, exOf(impl.ExSub, one, b)),
		"(a)or(b)": exOf(impl.ExOr, a, b), "not(a)and(b)": exOf(impl.ExAnd, exNot(a), b), "1or 2": exOf(impl.ExOr, one, two), `"x"or"y"`: exOf(impl.ExOr, exText("x"), exText("y")), `"x"and/a`: exOf(impl.ExAnd, exText("x"), exPath(fromRoot(aStep("a")))), "..or..": exOf(impl.ExOr, exPath(fromAbove(1)), exPath(fromAbove(1))), "1=count(a)+not(b)": exOf(impl.ExEq, one, exOf(impl.ExAdd, exCount(fromHere(aStep("a"))), exNot(b))),
		"not (a)": exNot(a), "not#\n(a)": exNot(a), "count ( a )": exCount(fromHere(aStep("a"))), "count\n(\n/\n)\n": exCount(fromRoot()), " ( a ) ": a, "a#b": a, "a # = b": a, "a#\n=#\nb#": exOf(impl.ExEq, a, b), `a [ b = "c" ] = b`: exOf(impl.ExEq, exPath(fromHere(aStep("a", aTest("b", "c")))), b),
	} {
		if e.Op == 0 {
			wantNoExprRead(t, s)
		} else {
			wantExprRead(t, s, e)
		}
	}
	// Blanks within a token make others of it.
	for _, s := range []string{"a < = b", "a > = b", "a ! = b", "a ! b", "1 2", "a b", "n ot(a)", "no t(a)", "co unt(a)", "a o r b", "a an d b", "a. .", ". .", `" "" "`, "a\t= b", "a =\rb", "\u00a0a"} {
		wantNoExprRead(t, s)
	}
	wantExprRead(t, `"a b"`, exText("a b"))
}

// withBrackets sets so many brackets around s.
func withBrackets(count int, s string) string {
	return strings.Repeat("(", count) + s + strings.Repeat(")", count)
}

func TestBracketsWithinEachOther(t *testing.T) {
	a := exName("a")
	for count := range 99 {
		fits := count <= 64
		for s, e := range map[string]impl.Expr{
			withBrackets(count, "a"): a, withBrackets(count, "1"): exNum(1), withBrackets(count, `"x"`): exText("x"), withBrackets(count, ".."): exPath(fromAbove(1)),
			// Those behind `count` do not count.
			withBrackets(count, "count(/)"): exCount(fromRoot()), withBrackets(count, "count(a) = 1"): exOf(impl.ExEq, exCount(fromHere(aStep("a"))), exNum(1)),
			// They also stand behind others, and within sides.
			"1 + " + withBrackets(count, "a"): exOf(impl.ExAdd, exNum(1), a), withBrackets(count, "a") + " or b": exOf(impl.ExOr, a, exName("b")), "a = (b) - " + withBrackets(count, "a"): exOf(impl.ExEq, a, exOf(impl.ExSub, exName("b"), a)), withBrackets(count, "a or not") + " and 1": exOf(impl.ExAnd, exOf(impl.ExOr, a, exName("not")), exNum(1)),
		} {
			if count == 0 && strings.Contains(s, "not and") {
				continue
			}
			if fits {
				wantExprRead(t, s, e)
			} else {
				wantNoExprRead(t, s)
			}
		}
	}
	// Those behind `not` count, wherever it stands.
	for nots := 1; nots < impl.MaxDeep; nots++ {
		for outer := 54; outer <= 70; outer++ {
			for inner := range 5 {
				s := withBrackets(outer, strings.Repeat("not(", nots)+withBrackets(inner, "a")+strings.Repeat(")", nots))
				if outer+nots+inner <= 64 {
					wantExprRead(t, s, chain("not", nots, a))
				} else {
					wantNoExprRead(t, s)
				}
			}
		}
		s := withBrackets(32, strings.Repeat("not(", nots)+withBrackets(32-nots, "b or count(a)")+strings.Repeat(")", nots))
		e := chain("not", nots, exOf(impl.ExOr, exName("b"), exCount(fromHere(aStep("a")))))
		if impl.IsExpr(e) {
			wantExprRead(t, s, e)
			wantNoExprRead(t, "("+s+")")
		} else {
			wantNoExprRead(t, s)
		}
	}
	// Side by side, there may be more.
	wantExprRead(t, withBrackets(49, "a")+" = "+withBrackets(49, "1"), exOf(impl.ExEq, a, exNum(1)))
	wantExprRead(t, withBrackets(30, withBrackets(34, "a")+" = "+withBrackets(34, "1")), exOf(impl.ExEq, a, exNum(1)))
	wantNoExprRead(t, withBrackets(31, withBrackets(34, "a")+" = "+withBrackets(33, "1")))
	wantNoExprRead(t, withBrackets(31, withBrackets(33, "a")+" = "+withBrackets(34, "1")))
	wantExprRead(t, withBrackets(31, withBrackets(33, "a")+" = "+withBrackets(33, "1")), exOf(impl.ExEq, a, exNum(1)))
}

func TestComparisonsInARow(t *testing.T) {
	for _, x := range everyTwoSided {
		for _, y := range everyTwoSided {
			s := "a " + x.sign + " b " + y.sign + " c"
			switch {
			case x.level == 3 && y.level == 3:
				wantNoExprRead(t, s)
				wantExprRead(t, "(a "+x.sign+" b) "+y.sign+" c", exOf(y.op, exOf(x.op, exName("a"), exName("b")), exName("c")))
				wantExprRead(t, "a "+x.sign+" (b "+y.sign+" c)", exOf(x.op, exName("a"), exOf(y.op, exName("b"), exName("c"))))
				wantNoExprRead(t, "1 + a "+x.sign+" b + 1 "+y.sign+" c - 1")
				wantNoExprRead(t, "d or a "+x.sign+" b "+y.sign+" c and d")
				wantNoExprRead(t, "not(a "+x.sign+" b "+y.sign+" c)")
			case y.level > x.level:
				wantExprRead(t, s, exOf(x.op, exName("a"), exOf(y.op, exName("b"), exName("c"))))
			default:
				wantExprRead(t, s, exOf(y.op, exOf(x.op, exName("a"), exName("b")), exName("c")))
			}
			if x.level != 3 || y.level != 3 {
				wantExprRead(t, s+" or d", exOf(impl.ExOr, mustRead(t, s), exName("d")))
			}
		}
	}
	wantExprRead(t, "a = b or c = d", exOf(impl.ExOr, exOf(impl.ExEq, exName("a"), exName("b")), exOf(impl.ExEq, exName("c"), exName("d"))))
	wantExprRead(t, "a < b and c >= d", exOf(impl.ExAnd, exOf(impl.ExLt, exName("a"), exName("b")), exOf(impl.ExGe, exName("c"), exName("d"))))
}

func mustRead(t *testing.T, s string) impl.Expr {
	t.Helper()
	e, ok := impl.ParseExpr(s)
	if !ok {
		t.Fatalf("ParseExpr(%q) failed", s)
	}
	return e
}

func TestOperatorsThatLackASide(t *testing.T) {
	for _, o := range everyTwoSided {
		for _, form := range []string{"a %", "% a", "%", "a % % b", "% a % b", "a % b %", "(a %)", "(% a)", "(a) %", "not(a %)", "not(% a)", "not(%)", "(%)", "a % ()", "() % a", "a % )", "( % a", "count(a) %", "count(a % b)", "count(%/)", "1 % ;", "% % %", "a % b % % c"} {
			s := strings.ReplaceAll(form, "%", o.sign)
			wantNoExprRead(t, s)
			wantNoExprRead(t, "1 or "+s)
			wantNoExprRead(t, s+" or 1")
		}
		for _, p := range everyTwoSided {
			wantNoExprRead(t, "a "+o.sign+" "+p.sign+" b")
			wantNoExprRead(t, "a "+o.sign+" b "+p.sign)
			wantNoExprRead(t, p.sign+" a "+o.sign+" b")
		}
	}
}

func TestTextsThatAreNoExprs(t *testing.T) {
	for _, s := range []string{
		"", " ", "\n", "#", "# a", "#\n", "\n \n",
		// Brackets that do not end or begin, or that hold nothing.
		"(", ")", "()", "(a", "a)", "((a)", "(a))", ")a(", "(a)(b)", "a(b)", "(a)b", "a ()", "() a", "(())", "( ) or a", "(a or (b)", "a or b)", "(a or b", "[a]", "{a}", "(a]", "(a}", "<a>", "(a) )", "a or (", "a or )", "not(", "not(a", "not a)", "not)", "not()", "not(()", "not(a))", "not((a)", "not(a)b", "not(a) b", "not(a)(b)", "not(a](", "not[a]", "not{a}", "not(a, b)", "not(a b)", "(not)(a)",
		"count(", "count)", "count()", "count(a", "count a)", "count((a))", "count(a))", "count(a)b", "count(a) b", "count(a)(b)", "count(a or b)", "count(a = b)", "count(a + b)", "count(1)", `count("a")`, "count(count(a))", "count(not(a))", "count(a, b)", "count(a b)", "count(a/)", "count(//)", "count(/a/..)", "count(a[b])", "count[a]", "count{a}", "count(a]", "(count)(a)", "count(-a)", "count(a;)", "count(/ /)", "count(..a)", "count(a(b))",
		// What is no item, and what is no operator.
		"/", "(/)", "not(/)", "/ or a", "a or /", "/ = /", "1 + /", "//", "a/", "../", "/a/", "a//b", "a/..", ".", "...", "*", "a * b", "a | b", "a , b", "a : b", "a . b", "a .. b", "a $ b", "$a", "a ; b", "a;", ";", "a { b", "a == b", "a = = b", "a <> b", "a => b", "a =< b", "a >> b", "a !== b", "a != = b", "a < > b", "a <= = b", "a & b", "a && b", "a || b", "!a", "! a", "a !", "a xor b", "a nor b", "a not b", "a count b", "a or or b", "a and or b", "a OR b", "a Or b", "NOT(a)", "Count(a)", "a or not b", "not a", "count a", "not not(a)", "not not", "count count(a)",
		// Tokens behind an expression.
		"a b", "1 2", "1 a", "a 1", `a "b"`, `"a" b`, `"a""b"`, "a = b c", "a or b c", "a or b 1", `a "or" b`, `a "=" b`, `a "+" 1`, `a "and" b`, "a [b]", "a]", "a[", "a[b]", `a[b="c"] d`, `a["b"]`, "1[a=\"b\"]", "a/b c", ".. ..", "..a", ".. a", "(a) (b)", "(a) 1", "not(a) 1", "count(a) 1", "1..2", "1 .. 2", "1 ..", "a = b;", "a or b }",
		// Numbers of another form.
		"00", "01", "007", "-1", "+1", "-0", "- 1", "(-1)", "a = -1", "a = +1", "1 - -1", "1 + +1", "1 - - 1", "1 + -1", "--1", "1000000001", "9999999999", "10000000000", "4294967297", "18446744073709551617", "9223372036854775808", "0x1", "1e3", "1.5", "1,000", "0 0", "00 = 0", "0 = 00", "a or 01", "not(01)", "01 + a", "1_0", "abcdefghijklmnopq", "a = abcdefghijklmnopq", "count(abcdefghijklmnopq)",
		// No tokens.
		"A", "a_b", "a/B", "&", "\\", "~", "a?", "'a'", "!", "a!", "%", "\x00", "a\x00", "\xff", "\u00e4", "\"", "a = \"", `"a`, `"\a"`, "a\tb", "a\r\n",
	} {
		wantNoExprRead(t, s)
		wantNoExprRead(t, "("+s+")")
		wantNoExprRead(t, "not("+s+")")
	}
	for _, s := range textsThatAreNoNames() {
		if _, ok := impl.ParsePath(s); !ok && s != "a b" && s != `"a"` && s != "1" && s != "A" {
			wantNoExprRead(t, s)
			wantNoExprRead(t, s+" = 1")
		}
	}
}

func TestWordsInExprs(t *testing.T) {
	or, and, not, count := exName("or"), exName("and"), exName("not"), exName("count")
	for s, e := range map[string]impl.Expr{
		"not": not, "count": count, "not/a": exName("not", "a"), "count/not": exName("count", "not"), "not/or": exName("not", "or"), "not or count": exOf(impl.ExOr, not, count), "count and not": exOf(impl.ExAnd, count, not), "not + count": exOf(impl.ExAdd, not, count), "not = count": exOf(impl.ExEq, not, count), "not = (count)": exOf(impl.ExEq, not, count), "not or (a)": exOf(impl.ExOr, not, exName("a")), "count and (a)": exOf(impl.ExAnd, count, exName("a")), "not - (1)": exOf(impl.ExSub, not, exNum(1)),
		"(not)": not, "(count)": count, "not(not)": exNot(not), "not(count)": exNot(count), "not(not or count)": exNot(exOf(impl.ExOr, not, count)), `not[a="b"]`: exPath(fromHere(aStep("not", aTest("a", "b")))), `count[not="or"] = not`: exOf(impl.ExEq, exPath(fromHere(aStep("count", aTest("not", "or")))), not), `a[or="and"][and="or"]`: exPath(fromHere(aStep("a", aTest("or", "and"), aTest("and", "or")))),
		"count(or)": exCount(or.Path), "count(and)": exCount(and.Path), "count(or/a)": exCount(fromHere(aStep("or"), aStep("a"))), `count(and[or="and"])`: exCount(fromHere(aStep("and", aTest("or", "and")))), "count(not)": exCount(not.Path), "count(count)": exCount(count.Path), "count(or) or count(and)": exOf(impl.ExOr, exCount(or.Path), exCount(and.Path)), "count(not/count)": exCount(fromHere(aStep("not"), aStep("count"))),
		"/or": exPath(fromRoot(aStep("or"))), "/ and": exPath(fromRoot(aStep("and"))), "../or": exPath(fromAbove(1, aStep("or"))), "../../and/or": exPath(fromAbove(2, aStep("and"), aStep("or"))), "a/or": exName("a", "or"), "a/ and": exName("a", "and"), "a/or/and": exName("a", "or", "and"), "/not": exPath(fromRoot(aStep("not"))), "a/or or a/and": exOf(impl.ExOr, exName("a", "or"), exName("a", "and")), "a or a/and and a": exOf(impl.ExOr, exName("a"), exOf(impl.ExAnd, exName("a", "and"), exName("a"))),
		"a or/b": exOf(impl.ExOr, exName("a"), exPath(fromRoot(aStep("b")))), ".. or a": exOf(impl.ExOr, exPath(fromAbove(1)), exName("a")), ".. and ..": exOf(impl.ExAnd, exPath(fromAbove(1)), exPath(fromAbove(1))), "orx": exName("orx"), "andy or orc": exOf(impl.ExOr, exName("andy"), exName("orc")), "or-1 = and-1": exOf(impl.ExEq, exName("or-1"), exName("and-1")), "nota": exName("nota"), "counts": exName("counts"), "not-a": exName("not-a"), "count-1": exName("count-1"), "not -1": exOf(impl.ExSub, not, exNum(1)), "not-": {}, `"or" or "and"`: exOf(impl.ExOr, exText("or"), exText("and")), `"not"`: exText("not"),
	} {
		if e.Op == 0 {
			wantNoExprRead(t, s)
			continue
		}
		wantExprRead(t, s, e)
		wantExprRead(t, "("+s+")", e)
		wantExprRead(t, "1 = ("+s+")", exOf(impl.ExEq, exNum(1), e))
	}
	for _, s := range []string{
		"or", "and", "(or)", "(and)", "not(or)", "not(and)", "or/a", "and/a", `or[a="b"]`, `and[a="b"]/c`, "or = 1", "1 = or", "and + 1", "1 + and", "or or or", "or or a", "a or or", "a and and", "and and and", "and or or", "a or and", "or(a)", "and(a)", "or/and", "not(or) or a", "1 = and/a",
		"a/not(b)", "a/count(b)", "/not(a)", "/count(a)", "../not(a)", "../count(/)", "nota(b)", "counts(a)", "xnot(a)", "or(a) or b", `"not"(a)`, `"count"(a)`, "not/a(b)", "count/a(b)", "not.a", "not:(a)", "not;(a)", "not[a](b)", `not[a="b"](c)`, `count[a="b"](c)`, "a(not)", "../ or a", "../or a", "/ or a", "a/ or b", "a/or b", "a / and b", "not-(a)b",
	} {
		wantNoExprRead(t, s)
		wantNoExprRead(t, "("+s+")")
	}
	wantExprRead(t, "not-(a)", exOf(impl.ExSub, not, exName("a")))
}

func TestExprsOf200Tokens(t *testing.T) {
	eq := func(a impl.Expr, b impl.Expr) impl.Expr { return exOf(impl.ExEq, a, b) }
	a, root := exName("a"), exPath(fromRoot(aStep("a")))
	full := fromRoot()
	for _, s := range names(impl.MaxSteps) {
		full.Steps = append(full.Steps, aStep(s, testsOf(impl.MaxTests)...))
	}
	// Of 170 and 27 tokens.
	path, inner := impl.FormatPath(full), "1 = not((a + a + a + a) or ((a + a + /a + 1)))"
	for s, e := range map[string]impl.Expr{
		withBrackets(49, "a") + " = " + withBrackets(49, "a"): eq(a, a), withBrackets(49, "/a") + " = " + withBrackets(49, "a"): eq(root, a), withBrackets(49, "/a") + " = " + withBrackets(49, "/a"): eq(root, root), withBrackets(50, "a") + " = " + withBrackets(49, "a"): eq(a, a), withBrackets(50, "a") + " = " + withBrackets(49, "/a"): eq(a, root), withBrackets(50, "/a") + " = " + withBrackets(50, "/a"): eq(root, root),
		withBrackets(14, path) + "= a": eq(exPath(full), a), withBrackets(14, path) + "= /a": eq(exPath(full), root), withBrackets(15, path): exPath(full), "(" + withBrackets(15, path) + ")": exPath(full), withBrackets(13, "count("+path+")") + " = 1": eq(exCount(full), exNum(1)), withBrackets(13, "not("+path+")") + " = (1)": eq(exNot(exPath(full)), exNum(1)),
		"a = " + path + " and " + inner: exOf(impl.ExAnd, eq(a, exPath(full)), mustRead(t, inner)), "/a = " + path + " and " + inner: exOf(impl.ExAnd, eq(root, exPath(full)), mustRead(t, inner)),
	} {
		count := tokenCount(t, s)
		if count < 195 || count > 205 {
			t.Fatalf("%d tokens are not worth a test", count)
		}
		// Neither blanks nor remarks count.
		for _, form := range []string{s, strings.Repeat(" ", 500) + s + strings.Repeat("#\n", 500), strings.ReplaceAll(s, "(", "( #\n")} {
			if count <= 200 {
				wantExprRead(t, form, e)
			} else {
				wantNoExprRead(t, form)
			}
		}
	}
	for count := 190; count <= 210; count++ {
		// One token for each `(` and `)`, one each for the name, `=` and the number.
		left := (count - 3) / 2 / 2
		s := withBrackets(left, "a") + " = " + withBrackets((count-3)/2-left, "1")
		if count%2 == 0 {
			s = strings.Replace(s, "a", "/a", 1)
		}
		if got := tokenCount(t, s); got != count {
			t.Fatalf("%d tokens, not %d", got, count)
		}
		if _, ok := impl.ParseExpr(s); ok != (count <= 200) {
			t.Errorf("ParseExpr of %d tokens gives %t", count, ok)
		}
	}
}

func TestExprsThatAreTooDeepAreNotRead(t *testing.T) {
	for _, o := range everyTwoSided {
		for count := range 14 {
			right := strings.Repeat("a "+o.sign+" (", count) + "a" + strings.Repeat(")", count)
			left := strings.Repeat("(", count) + "a" + strings.Repeat(" "+o.sign+" a)", count)
			row := "a" + strings.Repeat(" "+o.sign+" a", count)
			forms := []string{right, left, row}
			if o.level == 3 {
				forms = forms[:2]
			}
			for _, s := range forms {
				e, ok := impl.ParseExpr(s)
				if ok != (count < impl.MaxDeep) || ok != impl.IsExpr(e) {
					t.Errorf("ParseExpr(%q) = %s, %t", s, shownExpr(e), ok)
				}
				if !ok {
					wantNoExprRead(t, s)
				}
			}
		}
	}
	for count := range 14 {
		s := strings.Repeat("not(", count) + "a" + strings.Repeat(")", count)
		if _, ok := impl.ParseExpr(s); ok != (count < impl.MaxDeep) {
			t.Errorf("ParseExpr(%q) = %t", s, ok)
		}
	}
	wantExprRead(t, "1 or 2 or 3 or 4 or 5 or 6 or 7 or 8", mustRead(t, "((((((1 or 2) or 3) or 4) or 5) or 6) or 7) or 8"))
	wantNoExprRead(t, "1 or 2 or 3 or 4 or 5 or 6 or 7 or 8 or 9")
	wantNoExprRead(t, "1 or 2 or 3 or 4 or 5 or 6 or 7 or not(8) or 9")
	wantNoExprRead(t, "1 or 2 or 3 or 4 or 5 or 6 or 7 = 7 or 8 or 9")
	wantExprRead(t, "1 + 2 + 3 + 4 + 5 + 6 + 7 = 8", exOf(impl.ExEq, mustRead(t, "1 + 2 + 3 + 4 + 5 + 6 + 7"), exNum(8)))
	wantNoExprRead(t, "1 + 2 + 3 + 4 + 5 + 6 + 7 + 8 = 8")
}

var writtenNumber = regexp.MustCompile(`^(0|[1-9][0-9]{0,8}|1000000000)$`)

// lastSplit is the place of the last sign at which tokens may be split for a
// level: outside all brackets, and no word that is a step of a path; -1 if there
// is none.
func lastSplit(tokens []string, level int) int {
	place, open := -1, 0
	for i, token := range tokens {
		switch token {
		case "(", "[":
			open++
		case ")", "]":
			open--
		}
		isStep := i > 0 && tokens[i-1] == "/"
		if open == 0 && !isStep && twoSidedBy(token).level == level {
			place = i
		}
	}
	return place
}

// exprBySplitting reads tokens from the last operator of the loosest level on,
// rather than from the first token on.
func exprBySplitting(tokens []string, level int, brackets int) (impl.Expr, bool) {
	if level == itemLevel {
		return itemBySplitting(tokens, brackets)
	}
	at := lastSplit(tokens, level)
	if at < 0 {
		return exprBySplitting(tokens, level+1, brackets)
	}
	o := twoSidedBy(tokens[at])
	left, okLeft := exprBySplitting(tokens[:at], o.left, brackets)
	right, okRight := exprBySplitting(tokens[at+1:], o.right, brackets)
	return exOf(o.op, left, right), okLeft && okRight
}

func itemBySplitting(tokens []string, brackets int) (impl.Expr, bool) {
	s, last := strings.Join(tokens, " "), len(tokens)-1
	switch {
	case s == "" || isNoItem(strings.ReplaceAll(s, " ", "")):
		return impl.Expr{}, false
	case writtenNumber.MatchString(s):
		n, err := strconv.Atoi(s)
		return exNum(n), err == nil
	case last == 0 && s[0] == '"':
		text, ok := impl.UnquoteText(s)
		return exText(text), ok && impl.IsText(text)
	case last > 0 && tokens[0] == "(" && tokens[last] == ")":
		e, ok := exprBySplitting(tokens[1:last], 1, brackets+1)
		return e, ok && brackets < 64
	case last > 1 && tokens[0] == "not" && tokens[1] == "(" && tokens[last] == ")":
		e, ok := exprBySplitting(tokens[2:last], 1, brackets+1)
		return exNot(e), ok && brackets < 64
	case last > 1 && tokens[0] == "count" && tokens[1] == "(" && tokens[last] == ")":
		p, ok := impl.ParsePath(strings.Join(tokens[2:last], " "))
		return exCount(p), ok
	}
	p, ok := impl.ParsePath(s)
	return exPath(p), ok
}

func depthOf(e impl.Expr) int {
	depth := 0
	for _, kid := range e.Kids {
		depth = max(depth, depthOf(kid))
	}
	return depth + 1
}

// wantReadBySplitting reports whether the tokens, with single spaces between
// them, are read.
func wantReadBySplitting(t *testing.T, tokens []string) bool {
	t.Helper()
	want, wantOK := exprBySplitting(tokens, 1, 0)
	if !wantOK || depthOf(want) > impl.MaxDeep {
		want, wantOK = impl.Expr{}, false
	}
	s := strings.Join(tokens, " ")
	if got, ok := impl.ParseExpr(s); ok != wantOK || !equalExprs(got, want) {
		t.Fatalf("ParseExpr(%q) = %s, %t, want %s, %t", s, shownExpr(got), ok, shownExpr(want), wantOK)
	}
	return wantOK
}

func TestEveryRowOfTokensIsReadAsSplittingReadsIt(t *testing.T) {
	tokens := strings.NewReplacer("a", " a", "1", " 1", "0", " 01", "x", ` "x"`, "o", " or", "n", " and", "N", " not", "C", " count", "(", " (", ")", " )", "=", " =", "<", " <=", "!", " !=", ">", " >", "+", " +", "-", " -", "/", " /", ".", " ..", "T", ` [ or = "=" ]`, ";", " ;")
	read := 0
	for alphabet, size := range map[string]int{"a=()+": 7, "ao()": 8, "aoN()C": 6, "onCN()/": 6, "a/.oT=": 6, "a1=<!>+-on": 5, "a1x0oN(C)=+;": 4, "ao": 9, "a+-": 9, "a=on+": 7} {
		for _, row := range shortStrings(alphabet, size) {
			if wantReadBySplitting(t, strings.Fields(tokens.Replace(row))) {
				read++
			}
		}
	}
	if read < 2000 {
		t.Errorf("only %d of the rows are read", read)
	}
}

// The rows come from valid expressions, so that many of them are almost valid.
func TestExprsWithOneTokenChanged(t *testing.T) {
	others := []string{"(", ")", "or", "and", "not", "count", "=", "<=", "+", "-", "/", "..", "a", "1", "007", `"x"`, "[", "]", ";", "{"}
	read := 0
	for i, e := range mixedExprs(2500) {
		tokens := tokenTexts(impl.FormatExpr(e))
		if len(tokens) > 60 {
			continue
		}
		for at := range tokens {
			other := others[(i+at*7)%len(others)]
			for _, row := range [][]string{slices.Delete(slices.Clone(tokens), at, at+1), slices.Insert(slices.Clone(tokens), at, other), slices.Concat(tokens[:at], []string{other}, tokens[at+1:]), slices.Concat(tokens[:at], tokens[at:at+1], tokens[at:])} {
				if wantReadBySplitting(t, row) {
					read++
				}
			}
		}
	}
	if read < 3000 {
		t.Errorf("only %d of the rows are read", read)
	}
}

// The tests above tell which rows of tokens, with spaces between them, are
// expressions.
func TestEveryShortTextIsTheExprOfItsTokens(t *testing.T) {
	read := 0
	for _, s := range append(append(shortStrings("a1<=-+ ", 6), shortStrings("or()/.# \n", 5)...), shortStrings("a=\"!>#\n", 6)...) {
		want, wantOK := impl.Expr{}, false
		if tokens, bad := impl.Lex(s); bad == -1 {
			want, wantOK = impl.ParseExpr(impl.JoinTokens(tokens))
		}
		got, ok := impl.ParseExpr(s)
		if ok != wantOK || !equalExprs(got, want) {
			t.Fatalf("ParseExpr(%q) = %s, %t, want %s, %t", s, shownExpr(got), ok, shownExpr(want), wantOK)
		}
		if ok {
			read++
			wantExprRead(t, impl.FormatExpr(got), got)
		}
	}
	if read < 5000 {
		t.Errorf("only %d of the texts are read", read)
	}
}

func TestPathsOfExprs(t *testing.T) {
	a, b, c, d := fromHere(aStep("a")), fromRoot(aStep("b", aTest("k", "1"), aTest("l", "2")), aStep("c")), fromAbove(2), fromRoot()
	for _, e := range []impl.Expr{exNum(1), exText("a"), exNot(exNum(1)), exOf(impl.ExAdd, exNum(1), exText("/a")), {}} {
		wantPaths(t, e)
	}
	for _, p := range somePaths() {
		wantPaths(t, exPath(p), p)
		wantPaths(t, exCount(p), p)
		wantPaths(t, exNot(exPath(p)), p)
	}
	for _, o := range everyTwoSided {
		wantPaths(t, exOf(o.op, exPath(a), exPath(b)), a, b)
		wantPaths(t, exOf(o.op, exPath(b), exCount(a)), b, a)
		wantPaths(t, exOf(o.op, exCount(d), exNum(1)), d)
		wantPaths(t, exOf(o.op, exText("x"), exPath(c)), c)
		wantPaths(t, exOf(o.op, exPath(a), exPath(a)), a, a)
		wantPaths(t, exOf(o.op, exOf(o.op, exPath(a), exNot(exPath(b))), exOf(o.op, exCount(c), exPath(d))), a, b, c, d)
		wantPaths(t, exOf(o.op, exPath(a), exOf(o.op, exPath(b), exOf(o.op, exPath(c), exPath(a)))), a, b, c, a)
		wantPaths(t, exOf(o.op, exOf(o.op, exOf(o.op, exPath(a), exPath(b)), exPath(c)), exPath(d)), a, b, c, d)
		wantPaths(t, exNot(exOf(o.op, exNot(exNot(exPath(b))), exOf(o.op, exNum(1), exPath(b)))), b, b)
	}
	wantPaths(t, mustRead(t, `a or ../b and not(count(or) = /c[d="e"] + a - 1)`), a, fromAbove(1, aStep("b")), fromHere(aStep("or")), fromRoot(aStep("c", aTest("d", "e"))), a)
	// Those of a written expression stand in the text in the same order.
	for _, e := range append(smallExprs(), mixedExprs(800)...) {
		s := impl.FormatExpr(e)
		paths := impl.PathsOf(e)
		for i, p := range paths {
			_, behind, ok := strings.Cut(s, impl.FormatPath(p))
			if !ok {
				t.Fatalf("the path %d of %s is %s", i, shownExpr(e), shownPath(p))
			}
			s = behind
		}
		if want := countPaths(e); len(paths) != want {
			t.Errorf("PathsOf(%s) has %d paths, want %d", shownExpr(e), len(paths), want)
		}
	}
}

func countPaths(e impl.Expr) int {
	count := 0
	if e.Op == impl.ExPath || e.Op == impl.ExCount {
		count++
	}
	for _, kid := range e.Kids {
		count += countPaths(kid)
	}
	return count
}

// PathsOf asks nothing of an expression but the Ops and what is below them.
func TestPathsOfExprsThatAreNotValid(t *testing.T) {
	a, b, c := fromHere(aStep("a")), fromHere(aStep("b")), fromHere(aStep("c"))
	for _, p := range append(wrongPaths(), fromRoot(), fromHere(aStep("or"))) {
		wantPaths(t, exPath(p), p)
		wantPaths(t, exOf(impl.ExOr, exPath(a), exCount(p)), a, p)
	}
	// The Paths of other Ops do not count, whatever they are.
	for _, op := range []int{0, -1, 16, impl.ExNum, impl.ExText, impl.ExNot, impl.ExOr, impl.ExSub, 1<<32 + impl.ExPath} {
		wantPaths(t, impl.Expr{Op: op, Path: a})
		wantPaths(t, impl.Expr{Op: op, Path: a, Kids: []impl.Expr{exPath(b), exNum(1), exPath(c)}}, b, c)
	}
	// Whatever has kids is gone through, from the left to the right.
	wantPaths(t, impl.Expr{Op: impl.ExPath, Path: a, Kids: []impl.Expr{exPath(b), {Op: impl.ExCount, Path: a, Kids: []impl.Expr{exPath(c)}}, exPath(a)}}, a, b, a, c, a)
	wantPaths(t, exOf(impl.ExNot, exPath(a), exPath(b), exPath(c)), a, b, c)
	wantPaths(t, exOf(impl.ExOr, exOf(impl.ExOr), exPath(b), exOf(0, exPath(c), exPath(c))), b, c, c)
	for _, way := range []string{"not", "left", "right"} {
		for _, count := range []int{impl.MaxDeep - 1, impl.MaxDeep, impl.MaxDeep + 1, 1000} {
			wantPaths(t, chain(way, count, exPath(b)), b)
		}
	}
	wantPaths(t, fullExpr(impl.MaxDeep+2, exPath(a), exNum(1), exCount(b), exText("")), slices.Repeat([]impl.Path{a, b}, 1<<(impl.MaxDeep-1))...)
}

// What stands in two places counts twice, also if both are the same memory.
func TestPathsOfKidsThatShareMemory(t *testing.T) {
	a, b := fromHere(aStep("a")), fromHere(aStep("b", aTest("k", "1")))
	kids := []impl.Expr{exPath(a), exCount(b)}
	both := []impl.Expr{exOf(impl.ExOr, kids...), exOf(impl.ExAnd, kids...)}
	for e, want := range map[*impl.Expr][]impl.Path{
		{Op: impl.ExOr, Kids: both}: {a, b, a, b},
		{Op: impl.ExOr, Kids: []impl.Expr{exOf(impl.ExEq, both...), exOf(1, kids...)}}:      {a, b, a, b, a, b},
		{Op: impl.ExOr, Kids: []impl.Expr{exOf(impl.ExNot, kids[1:]...), exOf(6, kids...)}}: {b, a, b},
		{Op: impl.ExOr, Kids: []impl.Expr{exOf(impl.ExNot, kids[:1]...), kids[0]}}:          {a, a},
	} {
		got := impl.PathsOf(*e)
		if !slices.EqualFunc(got, want, equalPaths) {
			t.Errorf("PathsOf(%s) = %v", shownExpr(*e), got)
		}
		// Each path has memory of its own.
		for i := range got {
			changePath(got[i])
			if rest := got[i+1:]; !slices.EqualFunc(rest, want[i+1:], equalPaths) {
				t.Errorf("the paths of %s share memory: %v", shownExpr(*e), rest)
			}
		}
	}
	if !equalExprs(both[0], exOf(impl.ExOr, exPath(a), exCount(b))) {
		t.Errorf("PathsOf shares memory with its argument: %s", shownExpr(both[0]))
	}
}

// addExprKids adds to owners the memory of the kids of all parts of e, also the
// memory behind them, and fails where a part has it already.
func addExprKids(t *testing.T, s string, e impl.Expr, owners map[*impl.Expr]bool, steps map[*impl.Step]bool) {
	t.Helper()
	kids, ways := e.Kids[:cap(e.Kids)], e.Path.Steps[:cap(e.Path.Steps)]
	for i := range kids {
		if owners[&kids[i]] {
			t.Fatalf("two parts of what %q becomes share memory", s)
		}
		owners[&kids[i]] = true
	}
	for i := range ways {
		if steps[&ways[i]] {
			t.Fatalf("two paths of what %q becomes share memory", s)
		}
		steps[&ways[i]] = true
	}
	for _, kid := range e.Kids {
		addExprKids(t, s, kid, owners, steps)
	}
}

func TestExprsShareNoMemory(t *testing.T) {
	for s, want := range exprForms() {
		first, second := mustRead(t, s), mustRead(t, s)
		owners, steps := map[*impl.Expr]bool{}, map[*impl.Step]bool{}
		addExprKids(t, s, first, owners, steps)
		addExprKids(t, s, second, owners, steps)
		changeExpr(first)
		if !equalExprs(second, want) {
			t.Errorf("ParseExpr(%q) shares memory between its results: %s", s, shownExpr(second))
		}
		paths, again := impl.PathsOf(second), impl.PathsOf(second)
		changeExpr(second)
		for _, p := range again {
			changePath(p)
		}
		if !slices.EqualFunc(paths, impl.PathsOf(want), equalPaths) {
			t.Errorf("PathsOf(%s) shares memory: %v", shownExpr(want), paths)
		}
	}
}

func TestLongExprsEnd(t *testing.T) {
	inTime(t, "expressions that lie within themselves", func() {
		for i, e := range withinItself() {
			if impl.IsExpr(e) || impl.FormatExpr(e) != "" {
				t.Errorf("the expression %d, which has no end, is valid", i)
			}
			impl.PathsOf(e)
		}
	})
	inTime(t, "deep and wide expressions", func() {
		for _, way := range []string{"not", "left", "right"} {
			deep := chain(way, 500000, exName("a"))
			if impl.IsExpr(deep) || impl.FormatExpr(deep) != "" || len(impl.PathsOf(deep)) != 1 {
				t.Errorf("%s: wrong about a deep expression", way)
			}
		}
		wide := exOf(impl.ExOr, slices.Repeat([]impl.Expr{exName("a")}, 300000)...)
		if impl.IsExpr(wide) || impl.FormatExpr(wide) != "" || len(impl.PathsOf(wide)) != 300000 {
			t.Error("wrong about a wide expression")
		}
		long := exText(strings.Repeat("x", 1000000))
		if impl.IsExpr(long) || impl.IsExpr(exName(strings.Repeat("a", 1000000))) || impl.IsExpr(exName(names(200000)...)) {
			t.Error("a long text, name or path is valid")
		}
	})
	inTime(t, "long texts", func() {
		for _, part := range []string{"(", ")", "()", "(a)", "not(", "not", "count(", "a or ", "a = ", "a + ", "a ", "1", "1 ", "- ", "/", "/a", "../", `"`, `""`, `a[b="c"]`, "or ", "and", "#", "=", "(a or ", "not(a = "} {
			for _, count := range []int{201, 200000} {
				wantNoExprRead(t, strings.Repeat(part, count))
				wantNoExprRead(t, "a = "+strings.Repeat(part, count))
			}
		}
		wantExprRead(t, strings.Repeat(" ", 1000000)+"a"+strings.Repeat("#\n", 500000)+"= 1", exOf(impl.ExEq, exName("a"), exNum(1)))
		wantNoExprRead(t, `"`+strings.Repeat("x", 1000000)+`"`)
	})
}
