package tests

import (
	"fmt"
	"math"
	"regexp"
	"slices"
	"strconv"
	"strings"
	"testing"

	"loop.example/g03013/impl"
)

func anInt(l ...impl.Range) impl.Type {
	return impl.Type{Kind: impl.TyInt, Ranges: l}
}

func aText(pattern string, l ...impl.Range) impl.Type {
	return impl.Type{Kind: impl.TyText, Ranges: l, Pattern: pattern}
}

func aBool() impl.Type {
	return impl.Type{Kind: impl.TyBool}
}

func anEnum(names ...string) impl.Type {
	return impl.Type{Kind: impl.TyEnum, Names: names}
}

func aRef(path string) impl.Type {
	return impl.Type{Kind: impl.TyRef, Path: path}
}

func aFlag() impl.Type {
	return impl.Type{Kind: impl.TyFlag}
}

// names are count different names.
func names(count int) []string {
	l := []string{}
	for i := range count {
		l = append(l, "n"+strconv.Itoa(i))
	}
	return l
}

// someTypes are valid types of every kind, with each field that a kind may have
// and without it.
func someTypes() []impl.Type {
	return []impl.Type{
		anInt(), anInt(one(0)), anInt(span(0, 9)), anInt(span(-3, 4), one(6)), anInt(one(-7), one(7)), anInt(spans(impl.MaxRanges)...),
		anInt(span(-impl.MaxNumber, impl.MaxNumber)), anInt(one(impl.MaxNumber)), anInt(one(-impl.MaxNumber)), anInt(span(-9, -5), span(-3, -1)),
		aText(""), aText("a*"), aText("", span(1, 3)), aText("a*", span(1, 3)), aText("[a~c_]+|7?", one(0), span(2, 5), one(40)), aText("()"), aText("|"), aText("-"), aText(".*", spans(impl.MaxRanges)...),
		aText("", one(0)), aText("", one(41), span(43, impl.MaxNumber)), aText("", span(0, impl.MaxNumber)), aText(strings.Repeat("a", impl.MaxPattern), one(30)), aText("int"), aText("1"), aText("true"),
		aBool(),
		anEnum("a"), anEnum("b", "a"), anEnum("on", "off", "auto"), anEnum(names(impl.MaxEnum)...), anEnum("int", "text", "bool", "enum", "ref", "flag"), anEnum("enum"), anEnum("true", "false"), anEnum("a-1", "abcdefghijklmnop"),
		aRef("/a"), aRef("../name"), aRef(`/user[name="a"]/level`), aRef(`\`), aRef(`"`), aRef(" "), aRef("int"), aRef("a*"), aRef("no path at all ~"), aRef(strings.Repeat("x", impl.MaxText)),
		aFlag(),
	}
}

// wrongTypes are one field off from being valid.
func wrongTypes() []impl.Type {
	l := []impl.Type{
		{}, {Kind: 7}, {Kind: -1}, {Kind: 8}, {Kind: 100}, {Kind: math.MaxInt}, {Kind: math.MinInt}, {Kind: 1 << 32}, {Kind: 1<<32 + 1}, {Kind: 256 + impl.TyFlag},
		anInt(span(1, 0)), anInt(one(impl.MaxNumber + 1)), anInt(one(1), one(2)), anInt(one(4), one(1)), anInt(one(0), span(5, 4)), anInt(spans(impl.MaxRanges + 1)...), anInt(span(math.MinInt, math.MaxInt)),
		aText("", span(1, 0)), aText("", span(0, impl.MaxNumber+1)), aText("", one(1), one(2)), aText("", one(4), one(1)), aText("", spans(impl.MaxRanges+1)...), aText("a*", span(5, 4)),
		aText("", one(-1)), aText("", span(-1, 4)), aText("", span(-5, -3)), aText("", one(-1), span(1, 4)), aText("", span(-5, -3), span(0, 9)), aText("a*", span(-impl.MaxNumber, impl.MaxNumber)), aText("", one(-2), one(0), one(2)),
		anEnum(), anEnum(names(impl.MaxEnum + 1)...), anEnum(names(5000)...), anEnum(""), anEnum("a", ""), anEnum("a", "b", "a"),
		aRef(""), aRef("\n"), aRef("/a\x7f"), aRef("\xff"), aRef(strings.Repeat("x", impl.MaxText+1)),
	}
	for _, s := range textsThatAreNoPatterns() {
		l = append(l, aText(s), aText(s, span(1, 3)))
	}
	return l
}

func sameType(a impl.Type, b impl.Type) bool {
	return a.Kind == b.Kind && a.Pattern == b.Pattern && a.Path == b.Path && slices.Equal(a.Ranges, b.Ranges) && slices.Equal(a.Names, b.Names)
}

func shownType(ty impl.Type) string {
	return fmt.Sprintf("%.200s", fmt.Sprintf("%+v", ty))
}

// typeWithSpare is a copy of ty with one more range and one more name in the
// memory behind those that it has, which no function may touch.
func typeWithSpare(ty impl.Type) impl.Type {
	ty.Ranges = withSpare(ty.Ranges)
	ty.Names = append(slices.Clone(ty.Names), "spare")[:len(ty.Names)]
	return ty
}

// wantUntouchedType is for a ty that comes from typeWithSpare(before).
func wantUntouchedType(t *testing.T, name string, ty impl.Type, before impl.Type) {
	t.Helper()
	wantUntouched(t, name, ty.Ranges, before.Ranges)
	if !slices.Equal(ty.Names, before.Names) {
		t.Errorf("%s changed its argument from %s to %s", name, shownType(before), shownType(ty))
	}
	if behind := ty.Names[:len(ty.Names)+1][len(ty.Names)]; behind != "spare" {
		t.Errorf("%s changed the memory behind its argument %s to %q", name, shownType(before), behind)
	}
}

func wantType(t *testing.T, ty impl.Type, want bool) {
	t.Helper()
	given := typeWithSpare(ty)
	if got := impl.IsType(given); got != want {
		t.Errorf("IsType(%s) = %t", shownType(ty), got)
	}
	wantUntouchedType(t, "IsType", given, ty)
}

// wantCanon also asks IsValue, which is to be true of the canonical form alone.
func wantCanon(t *testing.T, ty impl.Type, s string, want string) {
	t.Helper()
	given := typeWithSpare(ty)
	if got, ok := impl.CanonValue(given, s); !ok || got != want {
		t.Errorf("CanonValue(%s, %.60q) = %.60q, %t, want %.60q, true", shownType(ty), s, got, ok, want)
	}
	if got := impl.IsValue(given, s); got != (s == want) {
		t.Errorf("IsValue(%s, %.60q) = %t", shownType(ty), s, got)
	}
	wantUntouchedType(t, "CanonValue", given, ty)
}

func wantNoValue(t *testing.T, ty impl.Type, s string) {
	t.Helper()
	given := typeWithSpare(ty)
	if got, ok := impl.CanonValue(given, s); ok || got != "" {
		t.Errorf("CanonValue(%s, %.60q) = %.60q, %t, want an empty text, false", shownType(ty), s, got, ok)
	}
	if impl.IsValue(given, s) {
		t.Errorf("IsValue(%s, %.60q) = true", shownType(ty), s)
	}
	wantUntouchedType(t, "CanonValue", given, ty)
}

// wantJustItself is for kinds whose values are written in one way only.
func wantJustItself(t *testing.T, ty impl.Type, s string, isValue bool) {
	t.Helper()
	if isValue {
		wantCanon(t, ty, s, s)
	} else {
		wantNoValue(t, ty, s)
	}
}

func wantNarrowResult(t *testing.T, ty impl.Type, r []impl.Range, want impl.Type, wantOK bool) {
	t.Helper()
	given, givenR := typeWithSpare(ty), withSpare(r)
	got, ok := impl.NarrowType(given, givenR)
	if ok != wantOK || !sameType(got, want) {
		t.Errorf("NarrowType(%s, %s) = %s, %t, want %s, %t", shownType(ty), shownRanges(r), shownType(got), ok, shownType(want), wantOK)
	}
	// What the caller does to the result must not show in the arguments.
	for i := range got.Ranges {
		got.Ranges[i] = span(50, 60)
	}
	for i := range got.Names {
		got.Names[i] = "changed"
	}
	_ = append(got.Ranges, span(70, 80))
	_ = append(got.Names, "behind")
	wantUntouchedType(t, "NarrowType", given, ty)
	wantUntouched(t, "NarrowType", givenR, r)
}

func wantNarrow(t *testing.T, ty impl.Type, r []impl.Range, want impl.Type) {
	t.Helper()
	wantNarrowResult(t, ty, r, want, true)
}

func wantNotNarrowed(t *testing.T, ty impl.Type, r []impl.Range) {
	t.Helper()
	wantNarrowResult(t, ty, r, ty, false)
}

func wantTypeWritten(t *testing.T, ty impl.Type, want string) {
	t.Helper()
	given := typeWithSpare(ty)
	if got := impl.FormatType(given); got != want {
		t.Errorf("FormatType(%s) = %.300q, want %.300q", shownType(ty), got, want)
	}
	wantUntouchedType(t, "FormatType", given, ty)
}

func wantTypeRead(t *testing.T, s string, want impl.Type) {
	t.Helper()
	if got, ok := impl.ParseType(s); !ok || !sameType(got, want) {
		t.Errorf("ParseType(%.100q) = %s, %t, want %s, true", s, shownType(got), ok, shownType(want))
	}
}

func wantNoTypeRead(t *testing.T, s string) {
	t.Helper()
	if got, ok := impl.ParseType(s); ok || !sameType(got, impl.Type{}) {
		t.Errorf("ParseType(%.100q) = %s, %t, want the zero Type, false", s, shownType(got), ok)
	}
}

// mixedValues are texts of which each is a value of one of someTypes, or nearly.
func mixedValues() []string {
	l := []string{
		"", "a", "b", "aa", "aaa", "aaaa", "ab", "abc_", "7", "77", "true", "false", "1", "0", "TRUE", "True", "t", "yes", "on", "off", "auto", "int", "enum", "ref", "a-1", "n0", "n5", "n6",
		"/a", "..", "../name", " ", " 1", "1 ", "\"", "\\", "\n", "a\n", "\x7f", "\xff", "~", "-", "+", "--1", "+-1", "0x1", "-0", "+0", "00", "+7", "-7", "007", "-007", "+007", "4", "5", "6", "9", "10", "-3", "-4", "-1",
		"1000000000", "-1000000000", "1000000001", "-1000000001", "+1000000000", "0001000000000", "18446744073709551617",
	}
	for size := 28; size <= 42; size++ {
		l = append(l, strings.Repeat("a", size), strings.Repeat("0", size))
	}
	return l
}

func TestTypeConstants(t *testing.T) {
	kinds := []int{impl.TyInt, impl.TyText, impl.TyBool, impl.TyEnum, impl.TyRef, impl.TyFlag}
	if !slices.Equal(kinds, []int{1, 2, 3, 4, 5, 6}) {
		t.Error(kinds)
	}
	if impl.MaxEnum != 6 {
		t.Error(impl.MaxEnum)
	}
}

func TestValidTypes(t *testing.T) {
	for _, ty := range someTypes() {
		wantType(t, ty, true)
		empty := ty
		empty.Ranges, empty.Names = append([]impl.Range{}, ty.Ranges...), append([]string{}, ty.Names...)
		wantType(t, empty, true)
		if !impl.IsType(ty) {
			t.Errorf("IsType(%s) = false", shownType(ty))
		}
	}
}

func TestTypesThatAreNotValid(t *testing.T) {
	for _, ty := range wrongTypes() {
		wantNothingOf(t, ty)
	}
	if impl.IsType(impl.Type{}) {
		t.Error("IsType of the zero Type = true")
	}
}

// wantNothingOf asks each function what it says of a type that is not valid.
func wantNothingOf(t *testing.T, ty impl.Type) {
	t.Helper()
	wantType(t, ty, false)
	wantTypeWritten(t, ty, "")
	for _, s := range []string{"", "0", "1", "a", "aa", "true", "n0", "n6", "/a"} {
		wantNoValue(t, ty, s)
	}
	for _, r := range [][]impl.Range{nil, {}, {one(0)}, {span(0, 9)}, {span(-impl.MaxNumber, impl.MaxNumber)}, {span(1, 0)}} {
		wantNotNarrowed(t, ty, r)
	}
}

func TestEveryKindWithEveryFields(t *testing.T) {
	for kind := -2; kind <= 9; kind++ {
		for fields := range 16 {
			ty := impl.Type{Kind: kind}
			if fields&1 != 0 {
				ty.Ranges = []impl.Range{span(1, 3)}
			}
			if fields&2 != 0 {
				ty.Names = []string{"a"}
			}
			if fields&4 != 0 {
				ty.Pattern = "a*"
			}
			if fields&8 != 0 {
				ty.Path = "/a"
			}
			valid := false
			switch kind {
			case impl.TyInt:
				valid = fields&^1 == 0
			case impl.TyText:
				valid = fields&^5 == 0
			case impl.TyBool, impl.TyFlag:
				valid = fields == 0
			case impl.TyEnum:
				valid = fields == 2
			case impl.TyRef:
				valid = fields == 8
			}
			if !valid {
				wantNothingOf(t, ty)
			}
			wantType(t, ty, valid)
		}
	}
}

// A field that is not mentioned must be zero also where it says nothing.
func TestFieldsThatAreNotMentionedAndSayNothing(t *testing.T) {
	for _, ty := range someTypes() {
		for i, change := range []func(*impl.Type){
			func(ty *impl.Type) { ty.Ranges = []impl.Range{{}} },
			func(ty *impl.Type) { ty.Ranges = []impl.Range{span(9, 8)} },
			func(ty *impl.Type) { ty.Names = []string{""} },
			func(ty *impl.Type) { ty.Names = []string{"A"} },
			func(ty *impl.Type) { ty.Pattern = "()" },
			func(ty *impl.Type) { ty.Pattern = "*" },
			func(ty *impl.Type) { ty.Path = " " },
			func(ty *impl.Type) { ty.Path = "\n" },
		} {
			changed := ty
			change(&changed)
			mentioned := [][]int{{impl.TyInt, impl.TyText}, {impl.TyEnum}, {impl.TyText}, {impl.TyRef}}[i/2]
			if !slices.Contains(mentioned, ty.Kind) {
				wantNothingOf(t, changed)
			}
		}
	}
}

func TestRangesOfTypes(t *testing.T) {
	for _, l := range append(smallLists(3, 3), spans(impl.MaxRanges), spans(impl.MaxRanges+1), spans(5000)) {
		wantType(t, anInt(l...), impl.AreRanges(l))
		wantType(t, aText("", l...), impl.AreRanges(l))
		moved := []impl.Range{}
		for _, r := range l {
			moved = append(moved, span(r.Lo-2, r.Hi-2))
		}
		negative := slices.ContainsFunc(moved, func(r impl.Range) bool { return r.Lo < 0 || r.Hi < 0 })
		wantType(t, anInt(moved...), impl.AreRanges(l))
		wantType(t, aText("a*", moved...), impl.AreRanges(l) && !negative)
	}
	for _, lo := range []int{math.MinInt, -impl.MaxNumber - 1, -impl.MaxNumber, -1, 0, 1, impl.MaxText, impl.MaxText + 1, impl.MaxNumber, impl.MaxNumber + 1, math.MaxInt} {
		for _, hi := range []int{lo, lo + 1, impl.MaxNumber, impl.MaxNumber + 1, math.MaxInt} {
			valid := lo >= -impl.MaxNumber && lo <= hi && hi <= impl.MaxNumber
			wantType(t, anInt(span(lo, hi)), valid)
			wantType(t, aText("", span(lo, hi)), valid && lo >= 0)
		}
	}
}

func TestPatternsOfTypes(t *testing.T) {
	for _, s := range append(shortStrings("a[]()*|", 4), "", strings.Repeat("a", 30), strings.Repeat("a", 31), strings.Repeat("(", 100000), "A", "a b", "a\n") {
		wantType(t, aText(s), impl.IsPattern(s))
		wantType(t, aText(s, span(0, 9)), impl.IsPattern(s))
	}
	wantType(t, aText(""), true)
}

func TestNamesOfTypes(t *testing.T) {
	for count := range 10 {
		l := names(count)
		wantType(t, anEnum(l...), count >= 1 && count <= impl.MaxEnum)
		if count > impl.MaxEnum {
			continue
		}
		for i := range count {
			for _, s := range []string{"", "A", "1", "-a", "a-", "a_b", "a b", " a", "a\n", "abcdefghijklmnopq", "\xff"} {
				wrong := slices.Clone(l)
				wrong[i] = s
				wantNothingOf(t, anEnum(wrong...))
			}
			for j := range count {
				twice := slices.Clone(l)
				twice[j] = l[i]
				wantType(t, anEnum(twice...), i == j)
			}
			good := slices.Clone(l)
			good[i] = "abcdefghijklmn-0"
			wantType(t, anEnum(good...), true)
		}
	}
}

func TestPathsOfTypes(t *testing.T) {
	for i := range 256 {
		s := oneByte(i)
		wantType(t, aRef(s), i >= 32 && i <= 126)
		wantType(t, aRef("/a"+s), i >= 32 && i <= 126)
		wantType(t, aRef(s+"/a"), i >= 32 && i <= 126)
	}
	for size := range 50 {
		wantType(t, aRef(strings.Repeat("a", size)), size >= 1 && size <= impl.MaxText)
	}
	// Whether it is a path is asked elsewhere.
	for _, s := range []string{"/", "a//b", "///", "[", "A B", "..", "1", "/a/", `/a[b="c"]`, `/a[b=`} {
		wantType(t, aRef(s), true)
	}
}

func TestNumbersAsTheyAreWritten(t *testing.T) {
	for _, n := range someNumbers() {
		want := strconv.Itoa(n)
		digits := strings.TrimPrefix(want, "-")
		for _, zeros := range []string{"", "0", "00", "000000000000", strings.Repeat("0", 5000)} {
			if n >= 0 {
				wantCanon(t, anInt(), zeros+digits, want)
				wantCanon(t, anInt(), "+"+zeros+digits, want)
			}
			if n <= 0 {
				wantCanon(t, anInt(), "-"+zeros+digits, want)
			}
		}
		wantCanon(t, anInt(one(n)), want, want)
		wantCanon(t, anInt(span(-impl.MaxNumber, impl.MaxNumber)), want, want)
	}
	wantCanon(t, anInt(span(0, 9)), "+07", "7")
	wantCanon(t, anInt(span(0, 9)), "7", "7")
	wantNoValue(t, anInt(span(0, 9)), "10")
	wantCanon(t, anInt(), "-0", "0")
	wantCanon(t, anInt(one(0)), "-000", "0")
	wantCanon(t, anInt(one(-7)), "-07", "-7")
	wantNoValue(t, anInt(one(-7)), "07")
}

func TestTextsThatAreNoNumbersAreNoValues(t *testing.T) {
	for _, s := range append(notNumbers(), beyondNumbers()...) {
		for _, ty := range []impl.Type{anInt(), anInt(span(-impl.MaxNumber, impl.MaxNumber)), anInt(span(0, 9)), anInt(one(0))} {
			wantNoValue(t, ty, s)
		}
	}
}

func TestNumbersInTheRangesOfATypeAndBeside(t *testing.T) {
	two := anInt(span(-3, 4), span(6, 8))
	for n := -12; n <= 12; n++ {
		in := n >= -3 && n <= 4 || n >= 6 && n <= 8
		want := strconv.Itoa(n)
		forms := []string{want, fmt.Sprintf("%+d", n), fmt.Sprintf("%+04d", n), fmt.Sprintf("%05d", n)}
		for _, s := range forms {
			if in {
				wantCanon(t, two, s, want)
			} else {
				wantNoValue(t, two, s)
			}
			wantCanon(t, anInt(), s, want)
		}
	}
	for n := -2; n <= 14; n++ {
		wantJustItself(t, anInt(spans(impl.MaxRanges)...), strconv.Itoa(n), n >= 0 && n <= 10 && n%2 == 0)
	}
	least, most := anInt(one(-impl.MaxNumber)), anInt(one(impl.MaxNumber))
	wantCanon(t, least, "-1000000000", "-1000000000")
	wantNoValue(t, least, "1000000000")
	wantNoValue(t, least, "-999999999")
	wantCanon(t, most, "+01000000000", "1000000000")
	wantNoValue(t, most, "-1000000000")
	wantNoValue(t, most, "999999999")
}

var numberForm = regexp.MustCompile(`^[-+]?[0-9]+$`)

func TestEveryShortTextAsANumber(t *testing.T) {
	types := []impl.Type{anInt(), anInt(span(-1, 2)), anInt(one(-9), span(2, 90)), anInt(one(0))}
	for _, s := range shortStrings("0129-+ ", 5) {
		n, _ := strconv.Atoi(strings.TrimPrefix(s, "+"))
		for _, ty := range types {
			if numberForm.MatchString(s) && (len(ty.Ranges) == 0 || holds(ty.Ranges, n)) {
				wantCanon(t, ty, s, strconv.Itoa(n))
			} else {
				wantNoValue(t, ty, s)
			}
		}
	}
}

func TestTextsByLength(t *testing.T) {
	for _, l := range [][]impl.Range{{}, {one(0)}, {one(1)}, {span(2, 3)}, {span(2, 3), one(5), span(38, 39)}, {one(0), one(40)}, {span(39, 41)}, {span(41, 99)}, {one(41)}, {span(0, impl.MaxNumber)}, {span(1, impl.MaxNumber)}} {
		for size := range 60 {
			in := len(l) == 0 || holds(l, size)
			for _, c := range []string{"a", " ", "~", "\"", "\\", "0", "A"} {
				s := strings.Repeat(c, size)
				wantJustItself(t, aText("", l...), s, in && size <= 40)
				wantJustItself(t, aText(".*", l...), s, in && size <= 40)
				wantJustItself(t, aText("a*", l...), s, in && size <= 40 && (c == "a" || size == 0))
			}
		}
	}
}

func TestTextsByPattern(t *testing.T) {
	for pattern, yes := range map[string][]string{
		"()": {""}, "a*": {"", "a", "aa", "aaa", "aaaa"}, "a+": {"a", "aa", "aaa", "aaaa"}, "a|bc?": {"a", "b", "bc"}, "[ab]c": {"ac", "bc"}, "a.": {"aa", "ab", "ac", "a-"}, "-?a": {"a", "-a"}, "|c": {"", "c"}, "[-a]": {"-", "a"},
	} {
		for _, s := range shortStrings("abc-", 4) {
			in := slices.Contains(yes, s)
			wantJustItself(t, aText(pattern), s, in)
			wantJustItself(t, aText(pattern, span(0, 40)), s, in)
			wantJustItself(t, aText(pattern, one(1), span(3, 9)), s, in && (len(s) == 1 || len(s) >= 3))
			wantJustItself(t, aText(""), s, true)
		}
	}
	for _, s := range []string{"a", "aaaaa"} {
		wantNoValue(t, aText("a*", span(2, 4)), s)
	}
	wantCanon(t, aText("[0~9]*"), "007", "007")
	wantCanon(t, aText("-?[0~9]*"), "-0", "-0")
	wantCanon(t, aText(""), "1", "1")
	wantCanon(t, aText(""), "+07", "+07")
	wantCanon(t, aText(""), "TRUE ", "TRUE ")
}

func TestEveryByteInAText(t *testing.T) {
	for i := range 256 {
		in := i >= 32 && i <= 126
		for _, s := range []string{oneByte(i), "a" + oneByte(i), oneByte(i) + "a", "a" + oneByte(i) + "a"} {
			wantJustItself(t, aText(""), s, in)
			wantJustItself(t, aText(".*"), s, in)
			wantJustItself(t, aText("", span(0, 3)), s, in)
			wantJustItself(t, aRef("/a"), s, in)
		}
	}
}

func TestBools(t *testing.T) {
	wantCanon(t, aBool(), "true", "true")
	wantCanon(t, aBool(), "false", "false")
	wantCanon(t, aBool(), "1", "true")
	wantCanon(t, aBool(), "0", "false")
	for _, s := range []string{
		"", " ", "True", "TRUE", "False", "FALSE", "t", "f", "tru", "true ", " true", "truefalse", "falsee", "fals", "yes", "no", "on", "off", "2", "-1", "+1", "+0", "-0", "00", "01", "001", "10", "1 ", " 0", "1\n", "nil", "bool", "\"true\"", "\x00", "\x01",
	} {
		wantNoValue(t, aBool(), s)
	}
	for _, s := range shortStrings("01tf+-", 4) {
		if s != "0" && s != "1" {
			wantNoValue(t, aBool(), s)
		}
	}
}

func TestEnums(t *testing.T) {
	few := anEnum("on", "off", "a-1")
	for _, s := range []string{"on", "off", "a-1"} {
		wantCanon(t, few, s, s)
	}
	for _, s := range []string{"", "o", "of", "onn", "On", "ON", "on ", " on", "on off", "onoff", "a", "a-", "a-2", "0", "1", "true", "enum", "\"on\"", "on\n"} {
		wantNoValue(t, few, s)
	}
	for count := 1; count <= impl.MaxEnum; count++ {
		l := names(count)
		for i := range 9 {
			s := "n" + strconv.Itoa(i)
			wantJustItself(t, anEnum(l...), s, i < count)
			slices.Reverse(l)
		}
	}
	// The names are no words here.
	bools := anEnum("true", "off")
	wantCanon(t, bools, "true", "true")
	wantNoValue(t, bools, "1")
	wantNoValue(t, bools, "false")
}

func TestRefs(t *testing.T) {
	for _, path := range []string{"/a", "no path", `/a[b="c"]`} {
		ref := aRef(path)
		for _, s := range []string{"a", " ", "1", "+07", "true", "/a", "..", "\"", "\\", "A b", "~", strings.Repeat("x", 39), strings.Repeat("x", 40)} {
			wantCanon(t, ref, s, s)
		}
		for _, s := range []string{"", "\n", "a\n", "\x00", "\x1f", "\x7f", "\xff", "\u00e9", strings.Repeat("x", 41), strings.Repeat("x", 5000)} {
			wantNoValue(t, ref, s)
		}
	}
}

func TestFlags(t *testing.T) {
	wantCanon(t, aFlag(), "", "")
	for _, s := range []string{" ", "0", "1", "true", "false", "a", "flag", "\x00", "\n", "\"\"", strings.Repeat("x", 5000)} {
		wantNoValue(t, aFlag(), s)
	}
}

func TestTheEmptyTextAsAValue(t *testing.T) {
	wantNoValue(t, anInt(), "")
	wantCanon(t, aText(""), "", "")
	wantCanon(t, aText("", span(0, 3)), "", "")
	wantNoValue(t, aText("", span(1, 3)), "")
	wantCanon(t, aText("a*"), "", "")
	wantNoValue(t, aText("a+"), "")
	wantNoValue(t, aBool(), "")
	wantNoValue(t, anEnum("a"), "")
	wantNoValue(t, aRef("/a"), "")
	wantCanon(t, aFlag(), "", "")
}

// This is promise 6: the canonical form of a value is its own.
func TestTheCanonicalFormOfAValueIsItsOwn(t *testing.T) {
	found := 0
	for _, ty := range someTypes() {
		for _, s := range append(mixedValues(), shortStrings("a017+-", 3)...) {
			canon, ok := impl.CanonValue(ty, s)
			if !ok {
				wantNoValue(t, ty, s)
				continue
			}
			found++
			wantCanon(t, ty, s, canon)
			wantCanon(t, ty, canon, canon)
			if ty.Kind != impl.TyInt && ty.Kind != impl.TyBool && canon != s {
				t.Errorf("CanonValue(%s, %q) = %q", shownType(ty), s, canon)
			}
		}
	}
	if found < 3000 {
		t.Errorf("only %d values", found)
	}
}

func TestNarrowInts(t *testing.T) {
	all := []impl.Range{span(-impl.MaxNumber, impl.MaxNumber)}
	wantNarrow(t, anInt(span(0, 9)), []impl.Range{span(5, 20)}, anInt(span(5, 9)))
	wantNarrow(t, anInt(), []impl.Range{span(5, 20)}, anInt(span(5, 20)))
	wantNarrow(t, anInt(), []impl.Range{one(-5), one(5)}, anInt(one(-5), one(5)))
	wantNarrow(t, anInt(span(0, 9)), nil, anInt(span(0, 9)))
	wantNarrow(t, anInt(one(-4), span(0, 9)), []impl.Range{}, anInt(one(-4), span(0, 9)))
	wantNarrow(t, anInt(), nil, anInt())
	wantNarrow(t, anInt(), []impl.Range{}, anInt())
	wantNarrow(t, anInt(), all, anInt(all...))
	wantNarrow(t, anInt(all...), []impl.Range{one(3)}, anInt(one(3)))
	wantNarrow(t, anInt(span(0, 9)), all, anInt(span(0, 9)))
	wantNarrow(t, anInt(span(0, 9)), []impl.Range{span(0, 9)}, anInt(span(0, 9)))
	wantNarrow(t, anInt(span(0, 9)), []impl.Range{span(-5, 0)}, anInt(one(0)))
	wantNarrow(t, anInt(span(0, 9)), []impl.Range{span(-5, 1), span(3, 4), span(8, 99)}, anInt(span(0, 1), span(3, 4), span(8, 9)))
	wantNarrow(t, anInt(span(0, 4), span(6, 9)), []impl.Range{span(3, 7)}, anInt(span(3, 4), span(6, 7)))
	wantNarrow(t, anInt(spans(6)...), spans(6), anInt(spans(6)...))
	wantNotNarrowed(t, anInt(span(0, 9)), []impl.Range{span(20, 30)})
	wantNotNarrowed(t, anInt(span(0, 9)), []impl.Range{one(10)})
	wantNotNarrowed(t, anInt(span(0, 9)), []impl.Range{one(-1)})
	wantNotNarrowed(t, anInt(one(1), one(3)), []impl.Range{one(0), one(2), one(4)})
}

func TestNarrowTexts(t *testing.T) {
	wantNarrow(t, aText("a*", span(0, 9)), []impl.Range{span(5, 20)}, aText("a*", span(5, 9)))
	wantNarrow(t, aText("a*"), []impl.Range{span(5, 20)}, aText("a*", span(5, 20)))
	wantNarrow(t, aText(""), []impl.Range{one(0), one(7)}, aText("", one(0), one(7)))
	wantNarrow(t, aText("", span(1, 3)), nil, aText("", span(1, 3)))
	wantNarrow(t, aText("b", span(1, 3)), []impl.Range{}, aText("b", span(1, 3)))
	wantNarrow(t, aText(""), nil, aText(""))
	wantNarrow(t, aText("c+"), []impl.Range{}, aText("c+"))
	// Lengths that no text has are as good as others.
	wantNarrow(t, aText(""), []impl.Range{span(41, 99)}, aText("", span(41, 99)))
	// Negative numbers of r do no harm if they are not left.
	wantNarrow(t, aText("a*", span(0, 9)), []impl.Range{span(-5, 3)}, aText("a*", span(0, 3)))
	wantNarrow(t, aText("", span(0, 9)), []impl.Range{one(-5), span(2, 3)}, aText("", span(2, 3)))
	wantNotNarrowed(t, aText(""), []impl.Range{span(-5, 3)})
	wantNotNarrowed(t, aText(""), []impl.Range{one(-1)})
	wantNotNarrowed(t, aText("a*"), []impl.Range{one(-1), span(2, 3)})
	wantNotNarrowed(t, aText(""), []impl.Range{span(-impl.MaxNumber, impl.MaxNumber)})
	wantNotNarrowed(t, aText("", span(0, 9)), []impl.Range{span(-5, -1)})
	wantNotNarrowed(t, aText("", span(1, 3)), []impl.Range{span(4, 9)})
	wantNotNarrowed(t, aText("a*", span(1, 3)), []impl.Range{one(0)})
	// The pattern does not say which lengths are left.
	wantNarrow(t, aText("aa"), []impl.Range{one(3)}, aText("aa", one(3)))
}

func TestNarrowByRangesThatAreNotValid(t *testing.T) {
	for _, r := range [][]impl.Range{
		{span(1, 0)}, {span(9, -9)}, {one(1), one(2)}, {one(4), one(1)}, {span(1, 5), span(3, 9)}, {one(1), one(1)}, {one(0), span(5, 4)}, {span(5, 4), one(7)},
		{span(0, impl.MaxNumber+1)}, {span(-impl.MaxNumber-1, 5)}, {span(math.MinInt, math.MaxInt)}, {one(3), one(math.MaxInt)}, spans(impl.MaxRanges + 1), spans(impl.MaxRanges + 2),
	} {
		for _, ty := range []impl.Type{anInt(), anInt(span(0, 9)), anInt(one(4)), aText(""), aText("a*", span(0, 9)), aBool(), anEnum("a"), aRef("/a"), aFlag(), {}} {
			wantNotNarrowed(t, ty, r)
		}
	}
}

func TestNarrowKindsWithoutRanges(t *testing.T) {
	for _, ty := range someTypes() {
		if ty.Kind == impl.TyInt || ty.Kind == impl.TyText {
			wantNarrow(t, ty, nil, ty)
			continue
		}
		for _, r := range [][]impl.Range{nil, {}, {one(0)}, {span(0, 9)}, {span(-impl.MaxNumber, impl.MaxNumber)}, spans(6), {span(1, 0)}} {
			wantNotNarrowed(t, ty, r)
		}
	}
}

// Two lists of valid ranges may meet in more of them than either has.
func TestNarrowToMoreRangesThanThereMayBe(t *testing.T) {
	for _, build := range []func(l ...impl.Range) impl.Type{anInt, func(l ...impl.Range) impl.Type { return aText("a*", l...) }} {
		five := []impl.Range{one(0), one(2), one(4), one(6), span(8, 20)}
		six := []impl.Range{one(0), one(2), one(4), one(6), one(8), span(10, 20)}
		parts := []impl.Range{span(0, 12), span(14, 20)}
		wantNarrow(t, build(five...), parts, build(one(0), one(2), one(4), one(6), span(8, 12), span(14, 20)))
		wantNotNarrowed(t, build(six...), parts)
		wantNotNarrowed(t, build(parts...), six)
		wantNarrow(t, build(six...), []impl.Range{span(1, 12), span(14, 20)}, build(one(2), one(4), one(6), one(8), span(10, 12), span(14, 20)))
	}
	wide := []impl.Range{span(0, 10), span(12, 20), span(22, 30), span(32, 40), span(42, 50), span(52, 60)}
	across := []impl.Range{span(5, 15), span(17, 25), span(27, 35), span(37, 45), span(47, 55), span(57, 65)}
	wantNotNarrowed(t, anInt(wide...), across)
	wantNotNarrowed(t, aText("", across...), wide)
}

// subsets are all lists of valid ranges of numbers from lo to hi, the empty list
// among them.
func subsets(lo int, hi int) [][]impl.Range {
	all := [][]impl.Range{}
	for bits := range 1 << (hi - lo + 1) {
		all = append(all, runs(lo, hi, func(n int) bool { return bits>>(n-lo)&1 != 0 }))
	}
	return all
}

func TestNarrowIsWhatBothHave(t *testing.T) {
	for _, l := range subsets(-2, 4) {
		for _, r := range subsets(-2, 4) {
			both := runs(-2, 4, func(n int) bool { return impl.InRanges(l, n) && impl.InRanges(r, n) })
			if len(l) == 0 && len(r) == 0 {
				both = nil
			}
			some := len(both) > 0 || len(l) == 0 && len(r) == 0
			ty := anInt(l...)
			if some {
				wantNarrow(t, ty, r, anInt(both...))
			} else {
				wantNotNarrowed(t, ty, r)
			}
			ty = aText("a*", l...)
			negative := len(l) > 0 && l[0].Lo < 0 || len(both) > 0 && both[0].Lo < 0
			if some && !negative {
				wantNarrow(t, ty, r, aText("a*", both...))
			} else {
				wantNotNarrowed(t, ty, r)
			}
		}
	}
}

func TestNarrowTypesShareNoMemory(t *testing.T) {
	for _, ty := range append(someTypes(), wrongTypes()...) {
		for _, r := range [][]impl.Range{nil, {span(0, 9)}, {span(-impl.MaxNumber, impl.MaxNumber)}, {span(7, 6)}} {
			given, givenR := typeWithSpare(ty), withSpare(r)
			first, _ := impl.NarrowType(given, givenR)
			before, _ := impl.NarrowType(given, givenR)
			want := impl.Type{Kind: before.Kind, Ranges: slices.Clone(before.Ranges), Names: slices.Clone(before.Names), Pattern: before.Pattern, Path: before.Path}
			for i := range first.Ranges {
				first.Ranges[i] = span(50, 60)
			}
			for i := range first.Names {
				first.Names[i] = "changed"
			}
			if !sameType(before, want) {
				t.Errorf("NarrowType(%s, %v) shares memory between its results", shownType(ty), r)
			}
			for i := range givenR {
				givenR[i] = span(50, 60)
			}
			for i := range given.Ranges {
				given.Ranges[i] = span(50, 60)
			}
			for i := range given.Names {
				given.Names[i] = "changed"
			}
			if !sameType(before, want) {
				t.Errorf("NarrowType(%s, %v) shares memory with its arguments", shownType(ty), r)
			}
		}
	}
}

func TestWrittenTypes(t *testing.T) {
	for want, ty := range map[string]impl.Type{
		"int": anInt(), "int 0..9": anInt(span(0, 9)), "int 7": anInt(one(7)), "int -7": anInt(one(-7)), "int -3..4|6": anInt(span(-3, 4), one(6)), "int -9..-5|-3..-1": anInt(span(-9, -5), span(-3, -1)),
		"int 0|2|4|6|8|10": anInt(spans(6)...), "int -1000000000..1000000000": anInt(span(-impl.MaxNumber, impl.MaxNumber)),
		"text": aText(""), "text 1..3": aText("", span(1, 3)), "text 0|2..5": aText("", one(0), span(2, 5)), `text "a*"`: aText("a*"), `text 1..3 "a*"`: aText("a*", span(1, 3)), `text "[a~c_.-]+|(7)?"`: aText("[a~c_.-]+|(7)?"), `text "()"`: aText("()"),
		"bool": aBool(), "flag": aFlag(),
		"enum a": anEnum("a"), "enum b a": anEnum("b", "a"), "enum on off a-1": anEnum("on", "off", "a-1"), "enum int text bool enum ref flag": anEnum("int", "text", "bool", "enum", "ref", "flag"), "enum n0 n1 n2 n3 n4 n5": anEnum(names(6)...),
		`ref "/a"`: aRef("/a"), `ref "../name"`: aRef("../name"), `ref " "`: aRef(" "), `ref "/user[name=\"a\"]/level"`: aRef(`/user[name="a"]/level`), `ref "\\"`: aRef(`\`), `ref "\""`: aRef(`"`), `ref "a\\\"b"`: aRef(`a\"b`), `ref "1..3"`: aRef("1..3"),
	} {
		wantTypeWritten(t, ty, want)
		wantTypeRead(t, want, ty)
	}
}

func TestTypesThatAreWrittenAreReadAgain(t *testing.T) {
	for _, ty := range someTypes() {
		s := impl.FormatType(ty)
		if s == "" {
			t.Errorf("FormatType(%s) is empty", shownType(ty))
		}
		wantTypeRead(t, s, ty)
	}
	for _, l := range subsets(0, 6) {
		for _, ty := range []impl.Type{anInt(l...), aText("", l...), aText("a|b", l...)} {
			wantTypeRead(t, impl.FormatType(ty), ty)
		}
	}
	for _, s := range shortStrings(`a"\ #[`, 4)[1:] {
		wantTypeRead(t, impl.FormatType(aRef(s)), aRef(s))
	}
	for _, s := range shortStrings(`a[]()*|`, 4)[1:] {
		if impl.IsPattern(s) {
			wantTypeRead(t, impl.FormatType(aText(s)), aText(s))
			wantTypeRead(t, impl.FormatType(aText(s, one(7))), aText(s, one(7)))
		}
	}
}

func TestBlanksAndRemarksInTypes(t *testing.T) {
	for _, ty := range someTypes() {
		tokens, _ := impl.Lex(impl.FormatType(ty))
		for _, between := range []string{" ", "  ", "\n", " \n ", "#\n", " # int 1 \"x\" |\n", "#\n#\n\n"} {
			parts := []string{}
			for _, token := range tokens {
				parts = append(parts, impl.TokenText(token))
			}
			s := strings.Join(parts, between)
			for _, form := range []string{s, between + s, s + between, between + s + between, s + "#", s + " # 1"} {
				wantTypeRead(t, form, ty)
			}
		}
	}
	for s, ty := range map[string]impl.Type{
		`text"a*"`: aText("a*"), `text 1..3"a*"`: aText("a*", span(1, 3)), `ref"/a"`: aRef("/a"), "int#\n7": anInt(one(7)), "int -7": anInt(one(-7)), "int - 7": anInt(one(-7)), "int -3 .. - 1 | 4": anInt(span(-3, -1), one(4)), `text#"a"` + "\n" + `"b"`: aText("b"),
		"int\n-7": anInt(one(-7)), "int#-": anInt(), "bool#": aBool(), "enum#a\nb": anEnum("b"), "enum a #b": anEnum("a"), "enum a#b\nc": anEnum("a", "c"), `ref "#a"`: aRef("#a"), "int 3..3": anInt(one(3)), "int -3..-3|5..5": anInt(one(-3), one(5)), `text 0..0 "a"`: aText("a", one(0)),
	} {
		wantTypeRead(t, s, ty)
	}
	// Without blanks these are other tokens.
	for _, s := range []string{"int1", "int1..3", "int-7", "int-3..4", "text1", "text1..3", "enuma", "enum-a", "enumab", "boolflag", "refa", "int7|9", "flag-", "int\t7", "int\r\n7", "\tint"} {
		wantNoTypeRead(t, s)
	}
}

func TestTextsThatAreNoTypes(t *testing.T) {
	for _, s := range []string{
		"", " ", "\n", "#", "# int", "#\n",
		// Words that are none.
		"a", "Int", "INT", "in", "intt", "integer", "string", "texts", "boolean", "enums", "reff", "flags", "type", "i", "int-a", "leaf", "none", "x int",
		"7", "-7", "1..3", `"int"`, `"text"`, `"a"`, "|", "..", ";", "{int}", "(int)", "[int]", "int;", "int,", "int.", "int/", "int:", "int$", "int =", ";int", "-int", "- int", "/int", "int |", "int ..",
		// Fields of another kind.
		`int "a*"`, `int 1..3 "a*"`, "int a", "int 1..3 a", "int int", "int text", "bool 1", "bool 1..3", "bool a", `bool "a"`, `bool ""`, "bool bool", "bool true", "flag 1", "flag a", `flag "a"`, `flag ""`, "flag flag", "text a", "text 1..3 a", "text text", "text int", "text 1..3 int",
		"enum 1", "enum 1..3", `enum "a"`, `enum a "a"`, "enum a 1", "enum a 1..3", "enum 1 a", `enum "a" a`, "enum a|b", "enum a,b", "enum a;", "enum a-", "enum -a", "ref a", "ref /a", "ref 1", `ref a "/a"`, `ref 1..3 "/a"`, `ref "/a" a`, `ref "/a" 1`, "ref ..", "ref ../a",
		// Parts in another order, twice or missing.
		`text "a*" 1..3`, `text "a" "b"`, `text "a" "a"`, `text 1..3 "a" "b"`, `text 1..3 "a" 1..3`, `text 1..3 4..6`, "text 1..3 5..6", "int 1..3 5..6", "int 1 3", "int 1..3 | | 5", "int | 1", "int 1 |", "int 1..", "int ..1", "int -", "int - - 1", "int +1", "int 1 -", "int 1..3|", "text 1..3|", `text 1..3| "a"`, `text | "a"`, `text 1.. "a"`, `text - "a"`,
		"enum", "ref", `ref "/a" "/b"`, `ref "/a" "/a"`, "enum enum 1", `"a*" text`, "1..3 int", `"/a" ref`, "a enum",
		// Tokens behind the type.
		"int;", "int 1..3;", "text;", `text "a";`, "bool;", "enum a;", `ref "/a";`, "flag;", "int }", "bool {", `ref "/a" /`, "int 1..3 )", "flag flag", "bool $",
		// What is empty is not written.
		`text ""`, `text 1..3 ""`, `text "" "a"`, `text "a" ""`, `ref ""`, `ref "" "/a"`, `ref "/a" ""`, `int ""`, `int 1 ""`, `enum ""`, `enum a ""`,
		// No tokens.
		"int 1 &", "& int", "int &", `text "a`, `text a"`, `ref "/a`, `ref "a\b"`, "ref '/a'", "int 1!", "enum A", "enum a_b", "int \x00", "int\xff", "bool \u00e9", `ref "/a"` + "\t",
	} {
		wantNoTypeRead(t, s)
	}
}

func TestWrittenTypesThatAreNotValid(t *testing.T) {
	for _, s := range []string{
		"int 3..1", "int 1|2", "int 5|1", "int 1..4|5..9", "int 1..5|3..9", "int 1|1", "int 0|2|4|6|8|10|12", "int 1000000001", "int -1000000001", "int 0..1000000001", "int 007", "int 01", "int -0", "int 00", "int 1..03",
		"text 3..1", "text 1|2", "text 0|2|4|6|8|10|12", "text 1000000001", "text 01", "text -1", "text -1..3", "text -5..-3", "text -5..-3|1", `text -1..3 "a*"`, `text -1 "a"`, `text 3..1 "a*"`,
		`text "*"`, `text "("`, `text "A"`, `text "a b"`, `text "[]"`, `text "[c~a]"`, `text 1..3 "a**"`, `text " "`, `text "a` + "\n" + `"`, `text "` + strings.Repeat("a", 31) + `"`, `text "\""`, `text "\\"`,
		"enum a a", "enum a b a", "enum b a a", "enum abcdefghijklmnopq", "enum a abcdefghijklmnopq", "enum " + strings.Join(names(7), " "), "enum " + strings.Join(names(5000), " "), "enum enum enum",
		`ref "` + strings.Repeat("a", 41) + `"`, "ref \"\n\"", "ref \"/a\x7f\"", "ref \"\xff\"", "ref \"/a\x00\"", `ref "` + strings.Repeat("a", 5000) + `"`,
	} {
		wantNoTypeRead(t, s)
	}
	for _, s := range textsThatAreNoPatterns() {
		wantNoTypeRead(t, "text "+impl.QuoteText(s))
		wantNoTypeRead(t, "text 1..3 "+impl.QuoteText(s))
	}
	wantTypeRead(t, `text "`+strings.Repeat("a", 30)+`"`, aText(strings.Repeat("a", 30)))
	wantTypeRead(t, "enum abcdefghijklmnop", anEnum("abcdefghijklmnop"))
	wantTypeRead(t, `ref "`+strings.Repeat("a", 40)+`"`, aRef(strings.Repeat("a", 40)))
}

const (
	rangesForm = `((?:- )?[15](?: \.\. (?:- )?[15])?(?: \| (?:- )?[15](?: \.\. (?:- )?[15])?)*)`
	wordForm   = `(?:int|text|bool|enum|ref|flag|a)`
)

var (
	numberTypeForm = regexp.MustCompile(`^(int|text)(?: ` + rangesForm + `)?(?: "(a)")?$`)
	enumTypeForm   = regexp.MustCompile(`^enum((?: ` + wordForm + `)+)$`)
)

// typeByPatterns reads types of the tokens of typeTokens, with a space between
// any two of them.
func typeByPatterns(s string) (impl.Type, bool) {
	switch s {
	case "bool":
		return aBool(), true
	case "flag":
		return aFlag(), true
	case `ref "a"`:
		return aRef("a"), true
	}
	if parts := enumTypeForm.FindStringSubmatch(s); parts != nil {
		l := strings.Fields(parts[1])
		sorted := slices.Sorted(slices.Values(l))
		return anEnum(l...), len(slices.Compact(sorted)) == len(l)
	}
	parts := numberTypeForm.FindStringSubmatch(s)
	if parts == nil {
		return impl.Type{}, false
	}
	l, ok := []impl.Range{}, true
	if parts[2] != "" {
		l, ok = parseByPatterns(parts[2])
	}
	if parts[1] == "int" {
		return anInt(l...), ok && parts[3] == ""
	}
	return aText(parts[3], l...), ok && !strings.Contains(parts[2], "-")
}

func typeTokens() []string {
	return []string{"int", "text", "bool", "enum", "ref", "flag", "a", "1", "5", "-", "..", "|", `"a"`, `""`}
}

// rowsOfTokens are all rows of up to size tokens, with spaces between them,
// behind the first ones.
func rowsOfTokens(first []string, size int) []string {
	all := slices.Clone(first)
	last := all
	for range size {
		longer := []string{}
		for _, s := range last {
			for _, token := range typeTokens() {
				longer = append(longer, s+" "+token)
			}
		}
		all = append(all, longer...)
		last = longer
	}
	return all
}

func TestEveryRowOfTokensIsReadAsPatternsReadIt(t *testing.T) {
	rows := append(rowsOfTokens(typeTokens()[:6], 4), rowsOfTokens(typeTokens()[6:], 2)...)
	read := 0
	for _, s := range rows {
		want, wantOK := typeByPatterns(s)
		if !wantOK {
			wantNoTypeRead(t, s)
			continue
		}
		read++
		wantTypeRead(t, s, want)
		wantType(t, want, true)
	}
	if read < 400 {
		t.Errorf("only %d of the rows are read", read)
	}
}

func TestReadTypesShareNoMemory(t *testing.T) {
	for _, ty := range someTypes() {
		s := impl.FormatType(ty)
		first, _ := impl.ParseType(s)
		second, _ := impl.ParseType(s)
		for i := range first.Ranges {
			first.Ranges[i] = span(50, 60)
		}
		for i := range first.Names {
			first.Names[i] = "changed"
		}
		if !sameType(second, ty) {
			t.Errorf("ParseType(%q) shares memory between its results", s)
		}
	}
}

func TestLongTypesAndTextsEnd(t *testing.T) {
	inTime(t, "types with many ranges and names", func() {
		many, words := spans(200000), names(200000)
		wantNothingOf(t, anInt(many...))
		wantNothingOf(t, aText("", many...))
		wantNothingOf(t, anEnum(words...))
		wantNothingOf(t, anEnum(slices.Repeat([]string{"a"}, 200000)...))
		wantNotNarrowed(t, anInt(many...), many)
		wantNotNarrowed(t, anInt(), many)
		wantNotNarrowed(t, aText("", one(4)), many)
	})
	inTime(t, "long texts", func() {
		long := strings.Repeat("a", 1000000)
		for _, ty := range someTypes() {
			wantNoValue(t, ty, long)
		}
		wantNoValue(t, anInt(), strings.Repeat("9", 1000000))
		wantCanon(t, anInt(), strings.Repeat("0", 1000000), "0")
		wantNoTypeRead(t, long)
		wantNoTypeRead(t, "enum "+long)
		wantNoTypeRead(t, strings.Repeat("enum ", 200000))
		wantNoTypeRead(t, "int "+strings.Repeat("1|", 200000)+"1")
		wantNoTypeRead(t, `ref "`+long+`"`)
		wantNoTypeRead(t, `text "`+long+`"`)
		wantNoTypeRead(t, `text "`+strings.Repeat("(", 200000)+`"`)
		wantTypeRead(t, strings.Repeat(" ", 1000000)+"bool", aBool())
	})
}

func TestTypesWithTheSlowestPatterns(t *testing.T) {
	inTime(t, "nested stars", func() {
		for _, pattern := range []string{"(((((((a*)*)*)*)*)*)*)*b", "(a|a|a|a|a|a|a)*b", "((((((a+)+)+)+)+)+)+b", "a?a?a?a?a?a?a?a?a?a?aaaaaaaaaa"} {
			wantNoValue(t, aText(pattern), strings.Repeat("a", 40))
		}
	})
}
