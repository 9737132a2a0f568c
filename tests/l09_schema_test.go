package tests

import (
	"fmt"
	"maps"
	"math"
	"math/rand/v2"
	"reflect"
	"slices"
	"strings"
	"testing"

	"loop.example/g03013/impl"
)

func aBox(name string, kids ...impl.Schema) impl.Schema {
	return impl.Schema{Kind: impl.NdBox, Name: name, Kids: kids}
}

func aLeaf(name string) impl.Schema {
	return aLeafOf(name, anInt())
}

func aLeafOf(name string, ty impl.Type) impl.Schema {
	return impl.Schema{Kind: impl.NdLeaf, Name: name, Type: ty}
}

func aGiven(name string, ty impl.Type, preset string) impl.Schema {
	return impl.Schema{Kind: impl.NdLeaf, Name: name, Type: ty, Given: true, Default: preset}
}

func aMany(name string) impl.Schema {
	return impl.Schema{Kind: impl.NdMany, Name: name, Type: anInt()}
}

func aChoice(name string, cases ...impl.Schema) impl.Schema {
	return impl.Schema{Kind: impl.NdChoice, Name: name, Kids: cases}
}

func aCase(name string, kids ...impl.Schema) impl.Schema {
	return impl.Schema{Kind: impl.NdCase, Name: name, Kids: kids}
}

func aUses(name string) impl.Schema {
	return impl.Schema{Kind: impl.NdUses, Name: name}
}

// aList has a leaf `key` before the other kids, and that as its key.
func aList(name string, kids ...impl.Schema) impl.Schema {
	return impl.Schema{Kind: impl.NdList, Name: name, Keys: []string{"key"}, Kids: append(oneSchema(aLeaf("key")), kids...)}
}

// aListOf has these keys and kids, and nothing else.
func aListOf(keys []string, kids ...impl.Schema) impl.Schema {
	return impl.Schema{Kind: impl.NdList, Name: "list", Keys: keys, Kids: kids}
}

func oneSchema(n impl.Schema) []impl.Schema {
	return []impl.Schema{n}
}

// withWhen is n with a condition.
func withWhen(n impl.Schema) impl.Schema {
	n.When = []impl.Expr{exName("a")}
	return n
}

// oneOfEveryKind are nodes with just what they must have, at the places of
// their kinds; the place 0 has none.
func oneOfEveryKind() []impl.Schema {
	return []impl.Schema{{}, aBox("n"), aListOf([]string{"key"}, aLeaf("key")), aLeaf("n"), aMany("n"), aChoice("n"), aCase("n"), aUses("n")}
}

// kindsThatAreNone also have the low bits of a kind.
func kindsThatAreNone() []int {
	return []int{0, -1, -impl.NdLeaf, 8, 9, 100, 256 + impl.NdBox, 1<<32 + impl.NdLeaf, math.MaxInt, math.MinInt}
}

// leaves are count leaves with different names.
func leaves(count int) []impl.Schema {
	l := []impl.Schema{}
	for _, s := range names(count) {
		l = append(l, aLeaf(s))
	}
	return l
}

// fullSchema has something in every field, also in those that a kind does not
// have, at three depths.
func fullSchema(depth int) impl.Schema {
	e := exOf(impl.ExAnd, exNot(exPath(fromRoot(aStep("a", aTest("b", "c"))))), exCount(fromAbove(1, aStep("d", aTest("e", "f")))))
	n := impl.Schema{
		Kind: impl.NdBox, Name: "full", Keys: []string{"x", "y"}, Unique: []string{"z"}, Default: "d", Given: true, Needed: true, Present: true, Fixed: true, Min: 1, Max: 2,
		Type: impl.Type{Kind: impl.TyText, Ranges: []impl.Range{span(1, 2), one(7)}, Names: []string{"p", "q"}, Pattern: "a*", Path: "/a"},
		When: []impl.Expr{e, exNum(1)}, Must: []impl.Expr{exText("t"), e, exNot(e)},
	}
	for i := range depth {
		kid := fullSchema(depth - 1)
		kid.Name = "full" + impl.FormatInt(i)
		n.Kids = append(n.Kids, kid)
	}
	return n
}

// sameThing compares all that is in two values; a nil slice is an empty one.
func sameThing(a reflect.Value, b reflect.Value) bool {
	switch a.Kind() {
	case reflect.Slice:
		if a.Len() != b.Len() {
			return false
		}
		for i := range a.Len() {
			if !sameThing(a.Index(i), b.Index(i)) {
				return false
			}
		}
		return true
	case reflect.Struct:
		for i := range a.NumField() {
			if !sameThing(a.Field(i), b.Field(i)) {
				return false
			}
		}
		return true
	}
	return a.Equal(b)
}

func equalSchemas(a []impl.Schema, b []impl.Schema) bool {
	return sameThing(reflect.ValueOf(a), reflect.ValueOf(b))
}

func equalNodes(a impl.Schema, b impl.Schema) bool {
	return equalSchemas(oneSchema(a), oneSchema(b))
}

// overwrite sets every string, number and bool that is not in a slice.
func overwrite(v reflect.Value) {
	switch v.Kind() {
	case reflect.Struct:
		for i := range v.NumField() {
			overwrite(v.Field(i))
		}
	case reflect.String:
		v.SetString("spare")
	case reflect.Int:
		v.SetInt(77)
	case reflect.Bool:
		v.SetBool(true)
	}
}

// copyWithSpare is a copy at every depth, where each slice has one more element
// in the memory behind it, which no function may touch.
func copyWithSpare(v reflect.Value) reflect.Value {
	result := reflect.New(v.Type()).Elem()
	switch v.Kind() {
	case reflect.Struct:
		for i := range v.NumField() {
			result.Field(i).Set(copyWithSpare(v.Field(i)))
		}
	case reflect.Slice:
		result.Set(reflect.MakeSlice(v.Type(), v.Len()+1, v.Len()+1))
		for i := range v.Len() {
			result.Index(i).Set(copyWithSpare(v.Index(i)))
		}
		overwrite(result.Index(v.Len()))
		result.Set(result.Slice(0, v.Len()))
	default:
		result.Set(v)
	}
	return result
}

func schemasWithSpare(l []impl.Schema) []impl.Schema {
	return copyWithSpare(reflect.ValueOf(l)).Interface().([]impl.Schema)
}

// withSpareShown is v with all slices as long as their memory.
func withSpareShown(v reflect.Value) reflect.Value {
	result := reflect.New(v.Type()).Elem()
	switch v.Kind() {
	case reflect.Struct:
		for i := range v.NumField() {
			result.Field(i).Set(withSpareShown(v.Field(i)))
		}
	case reflect.Slice:
		all := v.Slice(0, v.Cap())
		result.Set(reflect.MakeSlice(v.Type(), v.Cap(), v.Cap()))
		for i := range v.Cap() {
			result.Index(i).Set(withSpareShown(all.Index(i)))
		}
	default:
		result.Set(v)
	}
	return result
}

// wantUntouchedSchemas is for a l that comes from schemasWithSpare(before).
func wantUntouchedSchemas(t *testing.T, name string, l []impl.Schema, before []impl.Schema) {
	t.Helper()
	if !equalSchemas(l, before) {
		t.Fatalf("%s changed its argument from %s to %s", name, shownSchemas(before), shownSchemas(l))
	}
	if !sameThing(withSpareShown(reflect.ValueOf(l)), withSpareShown(reflect.ValueOf(schemasWithSpare(before)))) {
		t.Errorf("%s changed the memory behind the lists of %s", name, shownSchemas(before))
	}
}

// addMemory adds the places of the elements of all slices in v, at every depth,
// also of those behind their ends, and fails at one that is there already.
func addMemory(t *testing.T, name string, v reflect.Value, places map[uintptr]bool) {
	t.Helper()
	switch v.Kind() {
	case reflect.Struct:
		for i := range v.NumField() {
			addMemory(t, name, v.Field(i), places)
		}
	case reflect.Slice:
		all := v.Slice(0, v.Cap())
		for i := range v.Cap() {
			place := all.Index(i).Addr().Pointer()
			if places[place] {
				t.Fatalf("%s: a %s shares memory", name, v.Type())
			}
			places[place] = true
		}
		for i := range v.Len() {
			addMemory(t, name, v.Index(i), places)
		}
	}
}

// wantOwnMemory is for results that share no memory with each other, within
// themselves, or with the argument.
func wantOwnMemory(t *testing.T, name string, l []impl.Schema, results ...[]impl.Schema) {
	t.Helper()
	places := map[uintptr]bool{}
	addMemory(t, name, reflect.ValueOf(l), places)
	for _, result := range results {
		addMemory(t, name, reflect.ValueOf(result), places)
	}
}

// shownThing leaves out the fields that are zero.
func shownThing(v reflect.Value) string {
	parts := []string{}
	switch v.Kind() {
	case reflect.Struct:
		for i := range v.NumField() {
			if !isEmpty(v.Field(i)) {
				parts = append(parts, v.Type().Field(i).Name+":"+shownThing(v.Field(i)))
			}
		}
		return "{" + strings.Join(parts, " ") + "}"
	case reflect.Slice:
		for i := range min(v.Len(), 70) {
			parts = append(parts, shownThing(v.Index(i)))
		}
		return "[" + strings.Join(parts, " ") + "]"
	}
	return fmt.Sprintf("%.60q", fmt.Sprint(v))
}

func shownSchemas(l []impl.Schema) string {
	return fmt.Sprintf("%.1000s", shownThing(reflect.ValueOf(l)))
}

func shownNode(n impl.Schema) string {
	return shownSchemas([]impl.Schema{n})
}

func wantSchema(t *testing.T, want bool, l ...impl.Schema) {
	t.Helper()
	given := schemasWithSpare(l)
	if got := impl.IsSchema(given); got != want {
		t.Errorf("IsSchema(%s) = %t", shownSchemas(l), got)
	}
	wantUntouchedSchemas(t, "IsSchema", given, l)
	if byRules := isSchemaByRules(l); byRules != want {
		t.Errorf("by the rules, %s would be %t", shownSchemas(l), byRules)
	}
}

// homes are schemas in which the node is at several depths, but below nothing
// with a condition.
func homes(n impl.Schema) [][]impl.Schema {
	if n.Kind == impl.NdCase {
		return [][]impl.Schema{{aChoice("up", n)}, {aBox("up", aChoice("up", n, aCase("also")))}, {aLeaf("first"), aList("up", aBox("up", aChoice("up", aCase("also"), n), aLeaf("last")))}}
	}
	return [][]impl.Schema{{n}, {aLeaf("first"), n, aLeaf("last")}, {aBox("up", n)}, {aList("up", n)}, {aBox("up", aMany("first"), aBox("up", aList("up", aLeaf("first"), n)))}}
}

func wantNode(t *testing.T, want bool, n impl.Schema) {
	t.Helper()
	for _, l := range homes(n) {
		wantSchema(t, want, l...)
	}
}

// wantDataKids also holds the result against the argument.
func wantDataKids(t *testing.T, l []impl.Schema, want ...impl.Schema) {
	t.Helper()
	given := schemasWithSpare(l)
	got, again := impl.DataKids(given), impl.DataKids(given)
	if !equalSchemas(got, want) {
		t.Errorf("DataKids(%s) = %s, want %s", shownSchemas(l), shownSchemas(got), shownSchemas(want))
	}
	wantUntouchedSchemas(t, "DataKids", given, l)
	wantOwnMemory(t, "DataKids of "+shownSchemas(l), given, got, again)
}

func wantCount(t *testing.T, want int, l ...impl.Schema) {
	t.Helper()
	given := schemasWithSpare(l)
	if got := impl.CountSchema(given); got != want {
		t.Errorf("CountSchema(%s) = %d, want %d", shownSchemas(l), got, want)
	}
	wantUntouchedSchemas(t, "CountSchema", given, l)
}

// wantFound also holds the result against the argument.
func wantFound(t *testing.T, l []impl.Schema, names []string, want impl.Schema) {
	t.Helper()
	given, way := schemasWithSpare(l), slices.Clone(names)
	got, ok := impl.FindNode(given, way)
	again, _ := impl.FindNode(given, way)
	if !ok || !equalNodes(got, want) {
		t.Errorf("FindNode(%s, %q) = %s, %t, want %s, true", shownSchemas(l), names, shownNode(got), ok, shownNode(want))
	}
	wantUntouchedSchemas(t, "FindNode", given, l)
	if !slices.Equal(way, names) {
		t.Errorf("FindNode changed %q to %q", names, way)
	}
	wantOwnMemory(t, "FindNode of "+shownSchemas(l), given, oneSchema(got), oneSchema(again))
}

func wantNotFound(t *testing.T, l []impl.Schema, names ...string) {
	t.Helper()
	given := schemasWithSpare(l)
	if got, ok := impl.FindNode(given, names); ok || !equalNodes(got, impl.Schema{}) {
		t.Errorf("FindNode(%s, %.200q) = %s, %t, want the zero Schema, false", shownSchemas(l), names, shownNode(got), ok)
	}
	wantUntouchedSchemas(t, "FindNode", given, l)
}

// A placed is a node with those above it, the next one last.
type placed struct {
	node  impl.Schema
	above []impl.Schema
}

func everyPlaced(l []impl.Schema, above ...impl.Schema) []placed {
	all := []placed{}
	for _, n := range l {
		all = append(all, placed{n, above})
		all = append(all, everyPlaced(n.Kids, append(slices.Clone(above), n)...)...)
	}
	return all
}

// fieldsOfKind are the fields that the document mentions for a kind, beside
// Kind, Name and When.
func fieldsOfKind(kind int) []string {
	switch kind {
	case impl.NdBox:
		return []string{"Present", "Must", "Kids"}
	case impl.NdList:
		return []string{"Keys", "Unique", "Min", "Max", "Must", "Kids"}
	case impl.NdLeaf:
		return []string{"Type", "Default", "Given", "Needed", "Fixed", "Must"}
	case impl.NdMany:
		return []string{"Type", "Min", "Max", "Must"}
	case impl.NdChoice:
		return []string{"Needed", "Kids"}
	}
	return []string{"Kids"}
}

// isEmpty tells of a field whether it is zero.
func isEmpty(v reflect.Value) bool {
	return sameThing(v, reflect.Zero(v.Type()))
}

// isSchemaByRules asks for one rule after the other, each of all nodes, rather
// than going through the nodes once.
func isSchemaByRules(l []impl.Schema) bool {
	all := everyPlaced(l)
	if len(all) > 60 {
		return false
	}
	for _, p := range all {
		if len(p.above) >= 8 || p.node.Kind < 1 || p.node.Kind > 6 || !impl.IsName(p.node.Name) {
			return false
		}
	}
	for _, p := range append(all, placed{node: aBox("top", l...)}) {
		if haveOneName(p.node.Kids) || haveOneName(dataKidsByRules(p.node.Kids)) {
			return false
		}
	}
	for _, p := range all {
		if !hasJustItsFields(p.node) || !hasRulesInOrder(p.node) || !isAmongItsOwn(p) || !isOfItsKind(p) {
			return false
		}
	}
	return true
}

func haveOneName(l []impl.Schema) bool {
	names := map[string]bool{}
	for _, n := range l {
		names[n.Name] = true
	}
	return len(names) < len(l)
}

func dataKidsByRules(l []impl.Schema) []impl.Schema {
	kids := []impl.Schema{}
	for _, n := range l {
		switch n.Kind {
		case impl.NdBox, impl.NdList, impl.NdLeaf, impl.NdMany:
			kids = append(kids, n)
		case impl.NdChoice, impl.NdCase:
			kids = append(kids, dataKidsByRules(n.Kids)...)
		}
	}
	return kids
}

func hasJustItsFields(n impl.Schema) bool {
	v := reflect.ValueOf(n)
	for i := range v.NumField() {
		name := v.Type().Field(i).Name
		isMentioned := slices.Contains(append(fieldsOfKind(n.Kind), "Kind", "Name", "When"), name)
		if !isMentioned && !isEmpty(v.Field(i)) {
			return false
		}
	}
	return true
}

func hasRulesInOrder(n impl.Schema) bool {
	isWrong := func(e impl.Expr) bool { return !impl.IsExpr(e) }
	return len(n.When) <= 1 && len(n.Must) <= 3 && !slices.ContainsFunc(append(slices.Clone(n.When), n.Must...), isWrong)
}

func isAmongItsOwn(p placed) bool {
	isBelowChoice := len(p.above) > 0 && p.above[len(p.above)-1].Kind == impl.NdChoice
	return isBelowChoice == (p.node.Kind == impl.NdCase)
}

func isOfItsKind(p placed) bool {
	n := p.node
	switch n.Kind {
	case impl.NdList:
		return len(n.Keys) > 0 && areLeavesByRules(n.Keys, n.Kids, true) && areLeavesByRules(n.Unique, n.Kids, false) && areLimitsByRules(n)
	case impl.NdMany:
		return impl.IsType(n.Type) && areLimitsByRules(n)
	case impl.NdLeaf:
		isConditional := func(n impl.Schema) bool { return n.Kind == impl.NdCase || len(n.When) > 0 }
		if n.Given && (n.Needed || !impl.IsValue(n.Type, n.Default) || isConditional(n) || slices.ContainsFunc(p.above, isConditional)) {
			return false
		}
		return impl.IsType(n.Type) && (n.Given || n.Default == "")
	}
	return true
}

func areLeavesByRules(names []string, kids []impl.Schema, areKeys bool) bool {
	named := map[string]bool{}
	for _, kid := range kids {
		if kid.Kind == impl.NdLeaf && (!areKeys || len(kid.When) == 0 && !kid.Given && kid.Type.Kind != impl.TyFlag) && slices.Contains(names, kid.Name) {
			named[kid.Name] = true
		}
	}
	return len(names) <= 3 && len(named) == len(names)
}

func areLimitsByRules(n impl.Schema) bool {
	return 0 <= n.Min && 0 <= n.Max && n.Max <= 1000000000 && n.Min <= 1000000000 && (n.Max == 0 || n.Min <= n.Max)
}

func TestSchemaConstants(t *testing.T) {
	for i, kind := range []int{impl.NdBox, impl.NdList, impl.NdLeaf, impl.NdMany, impl.NdChoice, impl.NdCase, impl.NdUses} {
		if kind != i+1 {
			t.Errorf("the kind at the place %d is %d", i, kind)
		}
	}
	if impl.MaxNodes != 60 || impl.MaxMust != 3 {
		t.Error(impl.MaxNodes, impl.MaxMust)
	}
}

func TestDataKidsOfEveryKind(t *testing.T) {
	wantDataKids(t, nil)
	wantDataKids(t, []impl.Schema{})
	for kind, n := range oneOfEveryKind() {
		for _, with := range [][]impl.Schema{{}, {aLeaf("inner")}, {aBox("inner", aLeaf("deep"))}} {
			n.Kids = with
			switch kind {
			case impl.NdBox, impl.NdList, impl.NdLeaf, impl.NdMany:
				wantDataKids(t, oneSchema(n), n)
			case impl.NdChoice:
				wantDataKids(t, oneSchema(aChoice("c", aCase("d", with...))), with...)
			case impl.NdCase:
				wantDataKids(t, oneSchema(aChoice("c", n)), with...)
				wantDataKids(t, oneSchema(n), with...)
			default:
				wantDataKids(t, oneSchema(n))
			}
		}
	}
	for _, kind := range kindsThatAreNone() {
		n := aBox("n", aLeaf("inner"))
		n.Kind = kind
		wantDataKids(t, oneSchema(n))
		wantDataKids(t, []impl.Schema{n, aLeaf("a"), aChoice("c", aCase("d", n, aLeaf("b"))), n}, aLeaf("a"), aLeaf("b"))
	}
	every := oneOfEveryKind()
	wantDataKids(t, every, every[1:5]...)
	wantDataKids(t, append(every, every...), append(every[1:5:5], every[1:5]...)...)
}

func TestDataKidsStandInOrder(t *testing.T) {
	a, b, c, d, e, f := aLeaf("a"), aMany("b"), aList("c"), aBox("d", aLeaf("a"), aChoice("c", aCase("x", aLeaf("y")))), aLeaf("e"), aBox("f")
	wantDataKids(t, []impl.Schema{a, b, c, d}, a, b, c, d)
	wantDataKids(t, []impl.Schema{d, c, b, a}, d, c, b, a)
	wantDataKids(t, []impl.Schema{a, aChoice("u", aCase("v", b, c), aCase("w", d)), e}, a, b, c, d, e)
	wantDataKids(t, []impl.Schema{aChoice("u", aCase("v", f), aCase("w", e)), d, aChoice("x", aCase("v", c)), b}, f, e, d, c, b)
	// What has the same name, or is the same, is not left out.
	wantDataKids(t, []impl.Schema{a, a, aChoice("a", aCase("a", a, a), aCase("b", a))}, a, a, a, a, a)
	// A choice without cases, a case without kids.
	wantDataKids(t, oneSchema(aChoice("u")))
	wantDataKids(t, oneSchema(aChoice("u", aCase("v"), aCase("w"))))
	wantDataKids(t, []impl.Schema{a, aChoice("u"), b, aChoice("v", aCase("w")), c}, a, b, c)
	// What stands below a data kid is none.
	wantDataKids(t, oneSchema(d), d)
	wantDataKids(t, d.Kids, aLeaf("a"), aLeaf("y"))
	// The kids of a choice are cases.
	wantDataKids(t, []impl.Schema{aCase("v", a, b), aCase("w"), aCase("x", aChoice("y", aCase("z", c)), d)}, a, b, c, d)
}

func TestDataKidsOfChoicesWithinEachOther(t *testing.T) {
	a, b, c, d, e, f := aLeaf("a"), aMany("b"), aList("c"), aBox("d", aLeaf("a")), aLeaf("e"), aBox("f", aChoice("x", aCase("y", aLeaf("z"))))
	two := aChoice("two", aCase("left", b, aChoice("three", aCase("in", c), aCase("out"), aCase("by", d))), aCase("right", aChoice("none"), e))
	wantDataKids(t, []impl.Schema{aChoice("one", aCase("left", a, two), aCase("right", f))}, a, b, c, d, e, f)
	wantDataKids(t, []impl.Schema{aChoice("one", aCase("left", two, a)), f}, b, c, d, e, a, f)
	for depth := range 12 {
		inner, want := []impl.Schema{a}, []impl.Schema{a}
		for i := range depth {
			before, behind := aLeaf("b"+impl.FormatInt(i)), aBox("c"+impl.FormatInt(i), aLeaf("d"))
			inner = []impl.Schema{before, aChoice("x", aCase("y"), aCase("z", inner...)), behind}
			want = append(append(oneSchema(before), want...), behind)
		}
		wantDataKids(t, inner, want...)
	}
	// Nodes that are not valid have data kids likewise.
	wantDataKids(t, []impl.Schema{aChoice("x", a, aChoice("y", b), aCase("z", aCase("z", c)))}, a, b, c)
}

// Every field comes back at every depth, and none shares memory.
func TestDataKidsHaveMemoryOfTheirOwn(t *testing.T) {
	full, other := fullSchema(3), fullSchema(2)
	other.Kind = impl.NdLeaf
	wantDataKids(t, []impl.Schema{full, other}, full, other)
	around := fullSchema(0)
	around.Kind, around.Kids = impl.NdCase, []impl.Schema{other, full}
	wantDataKids(t, []impl.Schema{full, aChoice("c", around, aCase("d", full))}, full, other, full, full)
	// Arguments may share memory within themselves; what comes back does not.
	shared := []impl.Schema{aBox("a", full.Kids...), aBox("b", full.Kids...)}
	shared[1].Type, shared[1].When, shared[0].When, shared[0].Must = full.Type, full.When, full.When, full.When
	shared[0].Keys, shared[0].Unique = full.Keys, full.Keys
	places := map[uintptr]bool{}
	got := impl.DataKids(shared)
	addMemory(t, "DataKids of shared memory", reflect.ValueOf(got), places)
	if !equalSchemas(got, shared) {
		t.Errorf("DataKids(%s) = %s", shownSchemas(shared), shownSchemas(got))
	}
}

func TestCountSchema(t *testing.T) {
	wantCount(t, 0)
	for _, n := range oneOfEveryKind() {
		kids := len(n.Kids)
		wantCount(t, 1+kids, n)
		n.Kids = append(n.Kids, aUses("a"), aLeaf("b"))
		wantCount(t, 3+kids, n)
		wantCount(t, 6+2*kids, n, n)
		wantCount(t, 4+kids, aChoice("c", n))
	}
	for _, kind := range kindsThatAreNone() {
		wantCount(t, 3, impl.Schema{Kind: kind, Kids: []impl.Schema{{Kind: kind}, {}}})
	}
	wantCount(t, 8, oneOfEveryKind()[0], aBox("a", aBox("b", aLeaf("c")), aLeaf("d")), aChoice("e", aCase("f"), aCase("g")))
	for depth := range 20 {
		n := aLeaf("n")
		for range depth {
			n = aBox("a", aLeaf("b"), n, aChoice("c", aCase("d")))
		}
		wantCount(t, 1+4*depth, n)
	}
	// 1 + 4 * (1 + 3 * (1 + 2 * (1 + 1))), and expressions do not count.
	wantCount(t, 65, fullSchema(4))
	for _, count := range []int{1, 59, 60, 61, 200} {
		wantCount(t, count, leaves(count)...)
	}
}

// What stands in two places counts twice, also if both are the same memory.
func TestCountSchemaOfSharedMemory(t *testing.T) {
	kids := leaves(3)
	two := []impl.Schema{aBox("a", kids...), aBox("b", kids[1:]...)}
	wantCount(t, 7, two...)
	if got := impl.CountSchema([]impl.Schema{aBox("c", two...), aBox("d", two...), two[0]}); got != 20 {
		t.Errorf("CountSchema of shared memory is %d", got)
	}
}

func TestValidSchemas(t *testing.T) {
	wantSchema(t, true)
	for kind, n := range oneOfEveryKind() {
		wantNode(t, kind >= impl.NdBox && kind <= impl.NdCase, n)
		// What is empty may be nil or not.
		n.Keys, n.Unique, n.When, n.Must, n.Kids = append([]string{}, n.Keys...), []string{}, []impl.Expr{}, []impl.Expr{}, append([]impl.Schema{}, n.Kids...)
		n.Type.Ranges, n.Type.Names = []impl.Range{}, []string{}
		wantNode(t, kind >= impl.NdBox && kind <= impl.NdCase, n)
	}
	for _, ty := range someTypes() {
		many := aMany("n")
		many.Type = ty
		wantNode(t, true, many)
		wantNode(t, true, aLeafOf("n", ty))
	}
	if impl.IsSchema([]impl.Schema{{}}) {
		t.Error("the zero Schema is valid")
	}
}

func TestKindsThatAreNone(t *testing.T) {
	for _, kind := range append(kindsThatAreNone(), impl.NdUses) {
		for _, n := range oneOfEveryKind() {
			n.Kind = kind
			wantNode(t, false, n)
			wantSchema(t, false, aChoice("c", n))
			wantSchema(t, false, aLeaf("a"), aChoice("c", aCase("d", aLeaf("e"), n)))
		}
		wantNode(t, false, impl.Schema{Kind: kind, Name: "n"})
	}
	wantSchema(t, false, aUses("a"))
	wantSchema(t, false, aLeaf("a"), aBox("b", aUses("c")))
	wantSchema(t, false, aLeaf("a"), aList("b", aUses("c")))
}

// fieldChanges set one field each, by its name.
func fieldChanges() map[string][]func(n *impl.Schema) {
	type change = func(n *impl.Schema)
	return map[string][]change{
		"Type": {
			func(n *impl.Schema) { n.Type = anInt() }, func(n *impl.Schema) { n.Type = aFlag() }, func(n *impl.Schema) { n.Type = anEnum("a") },
			func(n *impl.Schema) { n.Type = aText("a*", one(1)) }, func(n *impl.Schema) { n.Type = aRef("/a") }, func(n *impl.Schema) { n.Type = aBool() },
		},
		// Fields of a Type that no valid one has in a leaf of this kind.
		"none": {
			func(n *impl.Schema) { n.Type.Kind = -1 }, func(n *impl.Schema) { n.Type.Kind = 7 },
			func(n *impl.Schema) { n.Type.Ranges = make([]impl.Range, 2) }, func(n *impl.Schema) { n.Type.Names = []string{""} },
			func(n *impl.Schema) { n.Type.Pattern = "a" }, func(n *impl.Schema) { n.Type.Path = "a" },
		},
		"Keys":    {func(n *impl.Schema) { n.Keys = []string{"key"} }},
		"Unique":  {func(n *impl.Schema) { n.Unique = []string{"key"} }},
		"Needed":  {func(n *impl.Schema) { n.Needed = true }},
		"Present": {func(n *impl.Schema) { n.Present = true }},
		"Fixed":   {func(n *impl.Schema) { n.Fixed = true }},
		"Min, Max": {
			func(n *impl.Schema) { n.Min = 1 }, func(n *impl.Schema) { n.Max = 1 },
			func(n *impl.Schema) { n.Min = impl.MaxNumber }, func(n *impl.Schema) { n.Max = impl.MaxNumber },
		},
		"When": {func(n *impl.Schema) { n.When = []impl.Expr{exNum(1)} }},
		"Must": {func(n *impl.Schema) { n.Must = []impl.Expr{exNum(1)} }, func(n *impl.Schema) { n.Must = []impl.Expr{exNum(1), exNum(1), exNum(1)} }},
		"Kids": {
			func(n *impl.Schema) { n.Kids = append(slices.Clone(n.Kids), aLeaf("more")) }, func(n *impl.Schema) { n.Kids = append(slices.Clone(n.Kids), aBox("more")) },
			func(n *impl.Schema) { n.Kids = append(slices.Clone(n.Kids), aChoice("more")) },
		},
		"Cases":         {func(n *impl.Schema) { n.Kids = append(slices.Clone(n.Kids), aCase("more")) }},
		"Given":         {func(n *impl.Schema) { n.Given, n.Default = true, "7" }},
		"Given, Needed": {func(n *impl.Schema) { n.Given, n.Default, n.Needed = true, "7", true }},
		"Given alone":   {func(n *impl.Schema) { n.Given = true }},
		"Default alone": {func(n *impl.Schema) { n.Default = "7" }, func(n *impl.Schema) { n.Default = " " }},
	}
}

func TestFieldsOfEveryKind(t *testing.T) {
	may := map[int][]string{
		impl.NdBox:    {"Present", "When", "Must", "Kids"},
		impl.NdList:   {"Keys", "Unique", "Min, Max", "When", "Must", "Kids"},
		impl.NdLeaf:   {"Type", "Needed", "Fixed", "When", "Must", "Given"},
		impl.NdMany:   {"Type", "Min, Max", "When", "Must"},
		impl.NdChoice: {"Needed", "When", "Cases"},
		impl.NdCase:   {"When", "Kids"},
		impl.NdUses:   {},
	}
	for kind, fields := range may {
		for name, changes := range fieldChanges() {
			for _, change := range changes {
				n := oneOfEveryKind()[kind]
				change(&n)
				wantNode(t, slices.Contains(fields, name), n)
			}
		}
	}
}

// Leaves may have all at once what they may have one at a time, and so may the
// other kinds.
func TestNodesWithAllFieldsOfTheirKind(t *testing.T) {
	when, must := []impl.Expr{exName("a")}, []impl.Expr{exName("a"), exNum(0), exOf(impl.ExEq, exCount(fromRoot()), exNum(1))}
	for _, n := range []impl.Schema{
		{Kind: impl.NdBox, Name: "n", Present: true, When: when, Must: must, Kids: []impl.Schema{aLeaf("a")}},
		{Kind: impl.NdList, Name: "n", Keys: []string{"c", "a"}, Unique: []string{"a", "b"}, Min: 1, Max: 2, When: when, Must: must, Kids: []impl.Schema{aLeaf("a"), aLeaf("b"), aLeaf("c"), aBox("d")}},
		{Kind: impl.NdLeaf, Name: "n", Type: anInt(), Needed: true, Fixed: true, When: when, Must: must},
		{Kind: impl.NdLeaf, Name: "n", Type: anInt(span(0, 9)), Given: true, Default: "7", Fixed: true, Must: must},
		{Kind: impl.NdMany, Name: "n", Type: aText("a*", span(1, 3)), Min: 1, Max: 2, When: when, Must: must},
		{Kind: impl.NdChoice, Name: "n", Needed: true, When: when, Kids: []impl.Schema{aCase("a"), aCase("b")}},
		{Kind: impl.NdCase, Name: "n", When: when, Kids: []impl.Schema{aLeaf("a"), aChoice("b", aCase("c"))}},
	} {
		wantNode(t, true, n)
		for _, kind := range []int{impl.NdBox, impl.NdList, impl.NdLeaf, impl.NdMany, impl.NdChoice, impl.NdCase, impl.NdUses} {
			other := n
			other.Kind = kind
			// What a case may have, a box may have, too.
			wantNode(t, kind == n.Kind || kind == impl.NdBox && n.Kind == impl.NdCase, other)
		}
	}
	wantNode(t, false, fullSchema(0))
	wantNode(t, false, fullSchema(2))
}

func TestNamesOfSchemas(t *testing.T) {
	for _, s := range []string{"a", "z-9", "abcdefghijklmn-0", "or", "box"} {
		for _, n := range oneOfEveryKind()[1:impl.NdUses] {
			n.Name = s
			wantNode(t, true, n)
		}
	}
	for _, s := range textsThatAreNoNames() {
		for _, n := range oneOfEveryKind()[1:] {
			n.Name = s
			wantNode(t, false, n)
			wantSchema(t, false, aBox("a", aChoice("b", aCase("c", n))))
		}
	}
}

// Both nodes are kids of the same node.
func TestTwoKidsOfOneName(t *testing.T) {
	for _, n := range oneOfEveryKind()[1:impl.NdCase] {
		for _, other := range oneOfEveryKind()[1:impl.NdCase] {
			for name, want := range map[string]bool{"one": false, "two": true, "on": true, "one1": true} {
				n.Name, other.Name = "one", name
				for _, l := range [][]impl.Schema{{n, other}, {n, aLeaf("a"), other}, {aLeaf("a"), aBox("b"), other, aMany("c"), n}} {
					wantSchema(t, want, l...)
					wantSchema(t, want, aBox("one", l...))
					wantSchema(t, want, aLeaf("x"), aList("one", l...))
					wantSchema(t, want, aChoice("x", aCase("y", l...)))
				}
				// Kids of different nodes.
				wantSchema(t, true, aBox("x", n), aBox("y", other))
				wantSchema(t, true, n, aBox("y", other))
				wantSchema(t, true, aBox("y", n, aBox("x", other)))
				wantSchema(t, name != "one", aList("x", aBox("y", n), other, aList("z", other), n))
			}
		}
	}
	wantSchema(t, false, aChoice("x", aCase("a"), aCase("b"), aCase("a")))
	wantSchema(t, true, aChoice("x", aCase("a"), aCase("b"), aCase("c")))
	wantSchema(t, true, aChoice("x", aCase("a")), aChoice("y", aCase("a")))
	wantSchema(t, false, aList("x", aLeaf("key")))
}

// At least one of both data nodes stands in a case.
func TestTwoDataKidsOfOneName(t *testing.T) {
	for _, n := range oneOfEveryKind()[1:impl.NdChoice] {
		for _, other := range oneOfEveryKind()[1:impl.NdChoice] {
			for name, want := range map[string]bool{"one": false, "two": true} {
				n.Name, other.Name = "one", name
				for _, l := range [][]impl.Schema{
					{n, aChoice("x", aCase("y", other))}, {aChoice("x", aCase("y", n)), other}, {n, aChoice("x", aCase("y"), aCase("z", aLeaf("a"), other))},
					{aChoice("x", aCase("y", n, other))}, {aChoice("x", aCase("y", n), aCase("z", other))}, {aChoice("x", aCase("y", n), aCase("a"), aCase("z", aLeaf("b"), other))},
					{aChoice("x", aCase("y", n)), aChoice("z", aCase("y", other))}, {aChoice("x", aCase("y"), aCase("z", n)), aLeaf("a"), aChoice("z", aCase("y", other))},
					{n, aChoice("x", aCase("y", aChoice("z", aCase("y", other))))}, {aChoice("x", aCase("y", n, aChoice("z", aCase("y", other))))}, {aChoice("x", aCase("a", n), aCase("y", aChoice("z", aCase("y", aLeaf("c")), aCase("z", other))))},
				} {
					wantSchema(t, want, l...)
					wantSchema(t, want, aBox("one", l...))
					wantSchema(t, want, aBox("a", aBox("b"), aList("one", l...)))
					wantSchema(t, want, aChoice("u", aCase("v", l...)))
				}
				// Data kids of different nodes.
				wantSchema(t, true, aChoice("x", aCase("y", aBox("a", n), other)))
				wantSchema(t, true, aChoice("x", aCase("y", n), aCase("z", aBox("a", other))))
				wantSchema(t, true, aBox("a", aChoice("x", aCase("y", n))), aBox("b", aChoice("x", aCase("y", other))))
				wantSchema(t, true, n, aBox("b", aChoice("x", aCase("y", other))))
			}
		}
	}
}

// Choices and cases are kids, but no data kids.
func TestChoicesAndCasesWithTheNamesOfOthers(t *testing.T) {
	for _, n := range oneOfEveryKind()[1:impl.NdChoice] {
		n.Name = "one"
		wantSchema(t, false, aChoice("one"), n)
		wantSchema(t, false, n, aChoice("one", aCase("a", aLeaf("b"))))
		wantSchema(t, false, aBox("a", n, aChoice("one")))
		wantSchema(t, true, n, aChoice("x", aCase("one")))
		wantSchema(t, true, aBox("a", aChoice("x", aCase("a"), aCase("one")), n))
		wantSchema(t, true, aChoice("one", aCase("one", n)))
		wantSchema(t, true, aChoice("x", aCase("one", n)))
		wantSchema(t, true, aChoice("one", aCase("x", n)))
		wantSchema(t, true, n, aChoice("x", aCase("y", aChoice("one"))))
		wantSchema(t, true, n, aChoice("x", aCase("y", aChoice("one", aCase("one", aLeaf("b"))))))
		wantSchema(t, false, aChoice("x", aCase("y", aChoice("one"), n)))
		wantSchema(t, true, aChoice("x", aCase("y", aChoice("one")), aCase("one", aChoice("x"), n)))
	}
	wantSchema(t, false, aChoice("one"), aChoice("one"))
	wantSchema(t, true, aChoice("one", aCase("one", aChoice("one", aCase("one", aChoice("one"))))))
	wantSchema(t, true, aChoice("x", aCase("y", aChoice("one")), aCase("z", aChoice("one"))))
}

func TestChoicesHaveCasesAndCasesAreInChoices(t *testing.T) {
	for kind, n := range oneOfEveryKind()[1:impl.NdUses] {
		kind++
		isCase := kind == impl.NdCase
		wantSchema(t, isCase, aChoice("x", n))
		wantSchema(t, isCase, aChoice("x", aCase("a"), n))
		wantSchema(t, isCase, aChoice("x", n, aCase("a")))
		wantSchema(t, isCase, aBox("a", aChoice("x", aCase("a"), n, aCase("b"))))
		wantSchema(t, !isCase, n)
		wantSchema(t, !isCase, aLeaf("a"), n)
		wantSchema(t, !isCase, aBox("a", n))
		wantSchema(t, !isCase, aBox("a", aLeaf("a"), n, aLeaf("b")))
		wantSchema(t, !isCase, aList("a", n))
		wantSchema(t, !isCase, aChoice("x", aCase("a", n)))
		wantSchema(t, !isCase, aChoice("x", aCase("a", aLeaf("b"), n)))
		wantSchema(t, !isCase, aChoice("x", aCase("a", aBox("b", n))))
	}
	wantSchema(t, false, aChoice("x", aChoice("y", aCase("z"))))
	wantSchema(t, true, aChoice("x", aCase("w", aChoice("y", aCase("z")))))
	wantSchema(t, false, aChoice("x", aCase("w", aCase("z"))))
}

func TestNumberOfNodes(t *testing.T) {
	for count := 1; count <= 130; count++ {
		want := count <= impl.MaxNodes
		wantSchema(t, want, leaves(count)...)
		wantSchema(t, want, aBox("a", leaves(count-1)...))
		wantSchema(t, want, append(leaves(count/2), aBox("a", leaves((count-1)/2)...))...)
		if count > 4 {
			wantSchema(t, want, aChoice("a", aCase("b", leaves(count-4)...), aCase("c"), aCase("d")))
			wantSchema(t, want, aBox("a"), aList("b", leaves(count-3)...))
			wantSchema(t, want, aList("b", leaves(count-4)...), aChoice("a", aCase("c")))
		}
	}
	// Many nodes that each have few kids.
	for boxes := 1; boxes <= 40; boxes++ {
		l := []impl.Schema{}
		for _, s := range names(boxes) {
			l = append(l, aBox(s, aLeaf("a"), aMany("b")))
		}
		wantSchema(t, 3*boxes <= impl.MaxNodes, l...)
		wantSchema(t, 3*boxes+1 <= impl.MaxNodes, append(l, aLeaf("a"))...)
		wantSchema(t, 3*boxes+1 <= impl.MaxNodes, append(oneSchema(aLeaf("a")), l...)...)
		wantSchema(t, 3*boxes+2 <= impl.MaxNodes, aBox("a", l...), aLeaf("b"))
		wantSchema(t, 3*boxes+3 <= impl.MaxNodes, aLeaf("b"), aChoice("a", aCase("c", l...)))
	}
}

// below has nodes of these kinds within each other, with the last one around l;
// around a choice and below it, a case comes between.
func below(kinds []int, l ...impl.Schema) []impl.Schema {
	for _, kind := range slices.Backward(kinds) {
		switch kind {
		case impl.NdBox:
			l = oneSchema(aBox("a", l...))
		case impl.NdList:
			l = oneSchema(aList("a", l...))
		case impl.NdChoice:
			l = oneSchema(aChoice("a", aCase("b", l...)))
		}
	}
	return l
}

func TestDepthOfSchemas(t *testing.T) {
	for _, leaf := range oneOfEveryKind()[1:impl.NdCase] {
		height := 1
		if leaf.Kind == impl.NdList {
			height = 2
		}
		for _, kind := range []int{impl.NdBox, impl.NdList} {
			for count := range 12 {
				l := below(slices.Repeat([]int{kind}, count), leaf)
				wantSchema(t, count+height <= impl.MaxDeep, l...)
				wantSchema(t, count+height <= impl.MaxDeep, append(leaves(3), l...)...)
				wantSchema(t, count+height <= impl.MaxDeep, append(l, leaves(3)...)...)
			}
		}
		for choices := range 6 {
			for boxes := range 6 {
				kinds := append(slices.Repeat([]int{impl.NdChoice}, choices), slices.Repeat([]int{impl.NdBox}, boxes)...)
				depth := 2*choices + boxes + height
				wantSchema(t, depth <= impl.MaxDeep, below(kinds, leaf)...)
				slices.Reverse(kinds)
				wantSchema(t, depth <= impl.MaxDeep, below(kinds, leaf)...)
			}
		}
	}
	// A choice and a case are as deep as what could stand there.
	seven := slices.Repeat([]int{impl.NdBox}, impl.MaxDeep-1)
	wantSchema(t, true, below(seven, aChoice("c"))...)
	wantSchema(t, false, below(seven, aChoice("c", aCase("d")))...)
	wantSchema(t, true, below(seven[1:], aChoice("c", aCase("d")))...)
	wantSchema(t, false, below(seven[1:], aChoice("c", aCase("d", aLeaf("e"))))...)
	wantSchema(t, false, below(seven[1:], aLeaf("first"), aBox("second", aLeaf("a")), aBox("third", aBox("a", aLeaf("b"))))...)
}

func TestNumberOfKeys(t *testing.T) {
	for count := range 7 {
		for kids := range 7 {
			want := count >= 1 && count <= impl.MaxTests && count <= kids
			n := aListOf(names(count), leaves(kids)...)
			wantNode(t, want, n)
			n.Keys = slices.Clone(n.Keys)
			slices.Reverse(n.Keys)
			wantNode(t, want, n)
			unique := aListOf(names(1), leaves(kids)...)
			unique.Unique = names(count)
			wantNode(t, kids >= 1 && count <= impl.MaxTests && count <= kids, unique)
		}
	}
	wantNode(t, false, aListOf(nil, aLeaf("key")))
	wantNode(t, false, aListOf([]string{}, aLeaf("key")))
	wantNode(t, false, aListOf(slices.Repeat([]string{"key"}, 200), aLeaf("key")))
}

func TestKeysAreDifferent(t *testing.T) {
	kids := []impl.Schema{aLeaf("a"), aLeaf("b"), aLeaf("c"), aLeaf("d")}
	for s, want := range map[string]bool{"a": true, "ab": true, "ba": true, "abc": true, "cab": true, "dcb": true, "aa": false, "aba": false, "aab": false, "baa": false, "aaa": false, "bcc": false, "abca": false} {
		keys := strings.Split(s, "")
		wantNode(t, want, aListOf(keys, kids...))
		unique := aListOf([]string{"d"}, kids...)
		unique.Unique = keys
		wantNode(t, want, unique)
		// Keys may be in Unique, too.
		unique.Keys, unique.Unique = []string{"a", "b"}, keys
		wantNode(t, want, unique)
	}
}

// wantKeyAndUnique tells of a list with these kids whether the name may be a
// key, alone or beside another, and whether it may be in Unique.
func wantKeyAndUnique(t *testing.T, name string, mayBeKey bool, mayBeUnique bool, kids ...impl.Schema) {
	t.Helper()
	kids = append(slices.Clone(kids), aLeaf("other"), aLeaf("another"))
	for _, l := range [][]string{{name}, {name, "other"}, {"other", name}, {"other", "another", name}, {"other", name, "another"}} {
		wantNode(t, mayBeKey, aListOf(l, kids...))
		unique := aListOf([]string{"other"}, kids...)
		unique.Unique = l
		wantNode(t, mayBeUnique, unique)
	}
}

func TestKeysNameLeavesAmongTheKids(t *testing.T) {
	for _, leaf := range []impl.Schema{aLeaf("k"), aLeafOf("k", aText("")), aLeafOf("k", aRef("/a")), aLeafOf("k", aBool()), aLeafOf("k", anEnum("a")), {Kind: impl.NdLeaf, Name: "k", Type: anInt(), Needed: true, Fixed: true, Must: []impl.Expr{exNum(1)}}} {
		wantKeyAndUnique(t, "k", true, true, leaf)
		wantKeyAndUnique(t, "k", true, true, aBox("a"), leaf, aChoice("b"))
	}
	// A name that is none, or that of something else.
	for _, name := range []string{"x", "", "K", "k ", "kk", "list", "a", "b", "c", "m", "y", "deep", "in", "z"} {
		kids := []impl.Schema{aLeaf("k"), aBox("a", aLeaf("deep"), aLeaf("x")), aListOf([]string{"z"}, aLeaf("z")), aMany("m"), aChoice("c", aCase("y", aLeaf("in"), aBox("b", aLeaf("x"))))}
		wantKeyAndUnique(t, name, false, false, kids...)
		wantKeyAndUnique(t, "k", true, true, kids...)
	}
	// What may not be a key, but may be in Unique.
	wantKeyAndUnique(t, "k", false, true, withWhen(aLeaf("k")))
	wantKeyAndUnique(t, "k", false, true, aGiven("k", anInt(), "7"))
	wantKeyAndUnique(t, "k", false, true, aGiven("k", aText(""), ""))
	wantKeyAndUnique(t, "k", false, true, aLeafOf("k", aFlag()))
	wantKeyAndUnique(t, "k", false, true, aGiven("k", aFlag(), ""))
	// A leaf of a list within the list or around it is none of its own.
	wantSchema(t, false, aListOf([]string{"key"}, aList("b")))
	wantSchema(t, false, aList("b", aListOf([]string{"key"}, aLeaf("other"))))
	wantSchema(t, false, aLeaf("key"), aListOf([]string{"key"}))
	wantSchema(t, true, aListOf([]string{"key"}, aList("b"), aLeaf("key")))
	// A condition of the list itself does not keep its leaves from being keys.
	wantNode(t, true, withWhen(aList("n")))
	wantNode(t, true, aCase("d", aList("n")))
}

func TestLimitsOfListsAndManys(t *testing.T) {
	numbers := []int{0, 1, 2, 3, impl.MaxNumber - 1, impl.MaxNumber, -1, -2, -impl.MaxNumber, impl.MaxNumber + 1, 1 << 32, 1<<32 + 1, math.MaxInt, math.MinInt}
	for _, least := range numbers {
		for _, most := range numbers {
			areNumbers := least >= 0 && least <= 1000000000 && most >= 0 && most <= 1000000000
			for _, n := range []impl.Schema{aList("n"), aMany("n")} {
				n.Min, n.Max = least, most
				wantNode(t, areNumbers && (most == 0 || least <= most), n)
			}
		}
	}
}

func TestTypesInSchemas(t *testing.T) {
	for _, ty := range wrongTypes() {
		many := aMany("n")
		many.Type = ty
		for _, n := range []impl.Schema{many, aLeafOf("n", ty), aGiven("n", ty, ""), aGiven("n", ty, "1")} {
			wantSchema(t, false, n)
			wantSchema(t, false, aBox("a", aChoice("b", aCase("c", n))))
		}
	}
}

func TestDefaultsAreValues(t *testing.T) {
	for _, ty := range someTypes() {
		for _, s := range mixedValues() {
			wantSchema(t, impl.IsValue(ty, s), aGiven("n", ty, s))
			// A Default without Given.
			wantSchema(t, s == "", impl.Schema{Kind: impl.NdLeaf, Name: "n", Type: ty, Default: s})
		}
	}
	for s, want := range map[string]bool{"7": true, "0": true, "-3": false, "10": false, "07": false, "+7": false, "": false, "seven": false, " 7": false} {
		wantNode(t, want, aGiven("n", anInt(span(0, 9)), s))
	}
	wantNode(t, true, aGiven("n", aBool(), "true"))
	wantNode(t, false, aGiven("n", aBool(), "1"))
	wantNode(t, true, aGiven("n", aFlag(), ""))
	wantNode(t, false, aGiven("n", aFlag(), "true"))
	wantNode(t, true, aGiven("n", aText(""), ""))
	wantNode(t, false, aGiven("n", aText("", span(1, 3)), ""))
	wantNode(t, true, aGiven("n", aRef("/a"), "x"))
	wantNode(t, false, aGiven("n", aRef("/a"), ""))
}

func TestGivenAndNeeded(t *testing.T) {
	for _, given := range []bool{false, true} {
		for _, needed := range []bool{false, true} {
			for _, fixed := range []bool{false, true} {
				n := impl.Schema{Kind: impl.NdLeaf, Name: "n", Type: aText(""), Given: given, Needed: needed, Fixed: fixed}
				wantNode(t, !given || !needed, n)
				n.Must = []impl.Expr{exNum(1)}
				wantNode(t, !given || !needed, n)
				n.When = []impl.Expr{exNum(1)}
				wantNode(t, !given, n)
				// A condition above, or a case, matters for Given alone.
				n.When = nil
				wantSchema(t, !given, withWhen(aBox("a", n)))
				wantSchema(t, !given, aChoice("a", aCase("b", n)))
			}
		}
	}
}

// Each of the nodes above a leaf with Given may be the one with a condition.
func TestNoDefaultBelowAConditionOrInACase(t *testing.T) {
	given := aGiven("n", anInt(), "7")
	for depth := range impl.MaxDeep {
		for _, kind := range []int{impl.NdBox, impl.NdList} {
			for place := range depth {
				var grow func(level int) impl.Schema
				grow = func(level int) impl.Schema {
					switch {
					case level == depth:
						return given
					case level == place:
						return withWhen(below([]int{kind}, grow(level+1))[0])
					}
					return below([]int{kind}, grow(level+1))[0]
				}
				wantSchema(t, false, grow(0))
				wantSchema(t, false, aLeaf("first"), grow(0))
			}
			wantSchema(t, true, below(slices.Repeat([]int{kind}, depth), given)...)
			wantSchema(t, true, below(slices.Repeat([]int{kind}, depth), aLeaf("a"), given, withWhen(aLeaf("b")))...)
		}
	}
	for boxes := range 5 {
		for inner := range 5 - boxes {
			outside, inside := slices.Repeat([]int{impl.NdBox}, boxes), slices.Repeat([]int{impl.NdList}, inner)
			wantSchema(t, false, below(outside, below([]int{impl.NdChoice}, below(inside, given)...)...)...)
			wantSchema(t, true, below(outside, below([]int{impl.NdChoice}, below(inside, aLeaf("n"))...)...)...)
		}
	}
	// A condition beside it, below it or in another node matters nothing.
	wantSchema(t, true, withWhen(aBox("a", aLeaf("b"))), given, aChoice("c", aCase("d")), withWhen(aLeaf("e")))
	wantSchema(t, true, aBox("a", withWhen(aBox("b")), given, withWhen(aChoice("c", withWhen(aCase("d"))))))
	wantSchema(t, false, withWhen(given))
	wantSchema(t, false, withWhen(aChoice("c", aCase("d", given))))
	wantSchema(t, false, aChoice("c", withWhen(aCase("d", given))))
	wantSchema(t, false, aChoice("c", aCase("d"), aCase("e", aChoice("c", aCase("d", aBox("f", given))))))
	// A rule that must hold is no condition.
	ruled := aBox("a", given)
	ruled.Must = []impl.Expr{exNum(0)}
	wantSchema(t, true, ruled)
}

// wrongExprs are one field off from being valid.
func wrongExprs() []impl.Expr {
	return []impl.Expr{{}, exNum(-1), exText("\n"), exPath(fromRoot()), exName("or"), {Op: 16}, exOf(impl.ExNot), chain("not", impl.MaxDeep, exNum(1)), {Op: impl.ExNum, Text: "x"}}
}

func TestRulesOfSchemas(t *testing.T) {
	good := []impl.Expr{exNum(1), exName("a"), exOf(impl.ExEq, exName("a"), exText("x")), chain("left", impl.MaxDeep-1, exNum(1))}
	for kind, n := range oneOfEveryKind()[1:impl.NdUses] {
		kind++
		hasMust := kind <= impl.NdMany
		for count := range 6 {
			rules := slices.Repeat(good, 2)[:count]
			n.When, n.Must = rules, nil
			wantNode(t, count <= 1, n)
			n.When, n.Must = nil, rules
			wantNode(t, count == 0 || hasMust && count <= impl.MaxMust, n)
			n.When, n.Must = good[:1], rules
			wantNode(t, count == 0 || hasMust && count <= impl.MaxMust, n)
		}
		for _, e := range good {
			n.When, n.Must = []impl.Expr{e}, nil
			wantNode(t, true, n)
		}
		for _, e := range wrongExprs() {
			n.When, n.Must = []impl.Expr{e}, nil
			wantNode(t, false, n)
			for place := range impl.MaxMust {
				n.When, n.Must = nil, slices.Clone(good[:impl.MaxMust])
				n.Must[place] = e
				wantNode(t, false, n)
			}
			n.Must = []impl.Expr{e}
			wantNode(t, false, n)
		}
	}
}

// Just one node is wrong, at every place of a schema that is right.
func TestOneWrongNodeAnywhere(t *testing.T) {
	build := func(a, b, c, d, e impl.Schema) []impl.Schema {
		return []impl.Schema{aBox("m", aLeaf("x"), a, aList("n", b, aLeaf("y"))), b, aChoice("z", aCase("v", c, aBox("w", d)), aCase("w", e)), aMany("u")}
	}
	fine := func(i int) impl.Schema { return aLeaf("f" + impl.FormatInt(i)) }
	wrong := []impl.Schema{aLeaf("A"), aLeafOf("s", impl.Type{}), aUses("s"), aCase("s"), {Kind: 8, Name: "s"}, aListOf(nil), aBox("s", aLeaf("t"), aLeaf("t")), {Kind: impl.NdBox, Name: "s", Fixed: true}}
	wantSchema(t, true, build(fine(0), fine(1), fine(2), fine(3), fine(4))...)
	for _, n := range wrong {
		for place := range 5 {
			l := []impl.Schema{fine(0), fine(1), fine(2), fine(3), fine(4)}
			l[place] = n
			wantSchema(t, false, build(l[0], l[1], l[2], l[3], l[4])...)
		}
	}
}

// A builder makes schemas of any kind; they are the same in each run.
type builder struct {
	source *rand.Rand
	room   int
}

func (b *builder) oneIn(count int) bool {
	return b.source.IntN(count) == 0
}

func (b *builder) rules(most int) []impl.Expr {
	l := []impl.Expr{}
	for range b.source.IntN(most + 1) {
		l = append(l, []impl.Expr{exNum(1), exName("a"), exNot(exName("b", "c"))}[b.source.IntN(3)])
	}
	return l
}

func (b *builder) nodeType() impl.Type {
	return []impl.Type{anInt(), anInt(span(0, 9)), aText("", span(0, 9)), aBool(), anEnum("on", "off"), aRef("/a"), aFlag()}[b.source.IntN(7)]
}

// node is mostly right, with names of which there are not many.
func (b *builder) node(kind int, depth int) impl.Schema {
	b.room--
	n := impl.Schema{Kind: kind, Name: string(rune('a' + b.source.IntN(16)))}
	if b.oneIn(12) {
		n.When = b.rules(1)
	}
	if kind <= impl.NdMany && b.oneIn(5) {
		n.Must = b.rules(impl.MaxMust)
	}
	switch kind {
	case impl.NdBox:
		n.Present = b.oneIn(3)
		n.Kids = b.nodes(depth - 1)
	case impl.NdList:
		n.Min, n.Max = b.source.IntN(2), b.source.IntN(3)
		n.Kids = append(b.nodes(depth-1), aLeaf("k"), aLeafOf("l", aText("")))
		b.source.Shuffle(len(n.Kids), func(i, j int) { n.Kids[i], n.Kids[j] = n.Kids[j], n.Kids[i] })
		n.Keys = [][]string{{"k"}, {"l"}, {"l", "k"}}[b.source.IntN(3)]
		n.Unique = [][]string{{}, {"k"}, {"l", "k"}}[b.source.IntN(3)]
	case impl.NdLeaf:
		n.Type, n.Fixed, n.Needed = b.nodeType(), b.oneIn(4), b.oneIn(4)
		if b.oneIn(6) {
			n.Given, n.Needed, n.Default = true, false, []string{"7", "", "true", "on"}[b.source.IntN(4)]
		}
	case impl.NdMany:
		n.Type, n.Min, n.Max = b.nodeType(), b.source.IntN(2), b.source.IntN(3)
	case impl.NdChoice:
		n.Needed = b.oneIn(3)
		for range b.source.IntN(4) {
			n.Kids = append(n.Kids, b.node(impl.NdCase, depth-1))
		}
	case impl.NdCase:
		n.Kids = b.nodes(depth - 1)
	}
	return n
}

func (b *builder) nodes(depth int) []impl.Schema {
	l := []impl.Schema{}
	for range b.source.IntN(4) {
		if depth > 0 && b.room > 0 {
			kinds := []int{impl.NdBox, impl.NdList, impl.NdLeaf, impl.NdLeaf, impl.NdLeaf, impl.NdMany, impl.NdChoice}
			l = append(l, b.node(kinds[b.source.IntN(len(kinds))], depth))
		}
	}
	return l
}

// everyNode are the nodes of l at every depth, to be changed where they stand.
func everyNode(l []impl.Schema) []*impl.Schema {
	all := []*impl.Schema{}
	for i := range l {
		all = append(all, &l[i])
		all = append(all, everyNode(l[i].Kids)...)
	}
	return all
}

// change changes a field or two of some node.
func (b *builder) change(l []impl.Schema) {
	all := everyNode(l)
	if len(all) == 0 {
		return
	}
	n, other := all[b.source.IntN(len(all))], all[b.source.IntN(len(all))]
	groups := slices.Sorted(maps.Keys(fieldChanges()))
	switch b.source.IntN(8) {
	case 0:
		n.Kind = b.source.IntN(9)
	case 1:
		n.Name = other.Name
	case 2:
		n.Keys, n.Unique = other.Unique, other.Keys
	case 3:
		n.Given, n.Default = other.Given, other.Default
	case 4:
		n.When = b.rules(2)
	case 5:
		n.Kids = append(slices.Clone(n.Kids), b.node(1+b.source.IntN(impl.NdCase), 2))
	default:
		changes := fieldChanges()[groups[b.source.IntN(len(groups))]]
		changes[b.source.IntN(len(changes))](n)
	}
}

func TestMixedSchemasAreAsTheRulesSay(t *testing.T) {
	valid, wrong := 0, 0
	for seed := range uint64(30000) {
		b := &builder{source: rand.New(rand.NewPCG(seed, 9)), room: 70}
		l := b.nodes(1 + int(seed%9))
		for range seed % 3 {
			b.change(l)
		}
		want := isSchemaByRules(l)
		if got := impl.IsSchema(l); got != want {
			t.Fatalf("IsSchema(%s) = %t", shownSchemas(l), got)
		}
		if kids, byRules := impl.DataKids(l), dataKidsByRules(l); !equalSchemas(kids, byRules) {
			t.Fatalf("DataKids(%s) = %s", shownSchemas(l), shownSchemas(kids))
		}
		if got := impl.CountSchema(l); got != len(everyNode(l)) {
			t.Fatalf("CountSchema(%s) = %d", shownSchemas(l), got)
		}
		if want && len(l) > 0 {
			valid++
			wantEachFoundOnce(t, l)
		} else {
			wrong++
		}
	}
	if valid < 4000 || wrong < 4000 {
		t.Errorf("%d schemas are valid, %d are not", valid, wrong)
	}
}

// addressesOf are the data nodes of a schema, by the names that lead to them.
func addressesOf(t *testing.T, l []impl.Schema, names []string, found map[string]impl.Schema) {
	t.Helper()
	for _, n := range dataKidsByRules(l) {
		way := append(slices.Clone(names), n.Name)
		if _, isThere := found[strings.Join(way, "/")]; isThere {
			t.Fatalf("the names %q lead to two nodes", way)
		}
		found[strings.Join(way, "/")] = n
		addressesOf(t, n.Kids, way, found)
	}
}

// wantEachFoundOnce is for a valid schema: it names each data node once.
func wantEachFoundOnce(t *testing.T, l []impl.Schema) {
	t.Helper()
	nodes := map[string]impl.Schema{}
	addressesOf(t, l, nil, nodes)
	count := 0
	for _, p := range everyPlaced(l) {
		if p.node.Kind <= impl.NdMany {
			count++
		}
	}
	if count != len(nodes) {
		t.Fatalf("%d data nodes, but %d names", count, len(nodes))
	}
	for way, n := range nodes {
		names := strings.Split(way, "/")
		if got, ok := impl.FindNode(l, names); !ok || !equalNodes(got, n) {
			t.Fatalf("FindNode(%s, %q) = %s, %t", shownSchemas(l), names, shownNode(got), ok)
		}
		for _, more := range []string{"zz", "", n.Name + "x"} {
			if _, ok := impl.FindNode(l, append(names, more)); ok {
				t.Fatalf("FindNode(%s, %q) finds %q", shownSchemas(l), names, more)
			}
		}
	}
}

func TestFindNode(t *testing.T) {
	deep := aBox("deep", aMany("many"), aChoice("which", aCase("low", aLeaf("leaf")), aCase("high", aChoice("inner", aCase("in", aList("list", aLeaf("last")))))))
	l := []impl.Schema{aLeaf("top"), aList("user", aLeaf("level"), deep), aChoice("use", aCase("flat", aLeaf("vlan")), aCase("round", aBox("box", aLeaf("top")))), aMany("tag")}
	wantSchema(t, true, l...)
	for way, want := range map[string]impl.Schema{
		"top": l[0], "user": l[1], "tag": l[3], "vlan": aLeaf("vlan"), "box": aBox("box", aLeaf("top")), "box/top": aLeaf("top"),
		"user/key": aLeaf("key"), "user/level": aLeaf("level"), "user/deep": deep, "user/deep/many": aMany("many"), "user/deep/leaf": aLeaf("leaf"), "user/deep/list": aList("list", aLeaf("last")), "user/deep/list/key": aLeaf("key"), "user/deep/list/last": aLeaf("last"),
	} {
		wantFound(t, l, strings.Split(way, "/"), want)
	}
	for _, way := range []string{
		"use", "flat", "round", "use/flat/vlan", "flat/vlan", "use/vlan", "round/box", "user/deep/which", "user/deep/low", "user/deep/which/low/leaf", "user/deep/low/leaf", "user/deep/inner", "user/deep/in", "user/deep/in/list",
		"top/top", "top/user", "vlan/vlan", "tag/tag", "user/key/key", "user/level/deep", "user/deep/list/last/last",
		"none", "level", "deep", "deep/leaf", "user/none", "user/deep/none", "user/user", "user/tag", "box/vlan", "none/top", "user/none/leaf", "user/deep/many/leaf", "key", "list",
		"to", "topp", "Top", "top ", "user[name=\"a\"]", "..", "*", "user/..", "user/deep/Leaf",
	} {
		wantNotFound(t, l, strings.Split(way, "/")...)
	}
	wantNotFound(t, l)
	wantNotFound(t, l, []string{}...)
	wantNotFound(t, l, "")
	wantNotFound(t, l, "", "top")
	wantNotFound(t, l, "top", "")
	wantNotFound(t, l, "user", "", "level")
	wantNotFound(t, l, "user/level")
	wantNotFound(t, nil)
	wantNotFound(t, nil, "top")
	wantNotFound(t, nil, "")
	for _, s := range textsThatAreNoNames() {
		wantNotFound(t, l, s)
		wantNotFound(t, l, "user", s)
	}
}

func TestFindNodeOfEveryKind(t *testing.T) {
	for kind, n := range oneOfEveryKind() {
		n.Name = "n"
		for _, l := range [][]impl.Schema{{n}, {aChoice("a", n)}, {aLeaf("a"), aChoice("b", aCase("c", aLeaf("d"), n))}} {
			if kind >= impl.NdBox && kind <= impl.NdMany {
				wantFound(t, l, []string{"n"}, n)
				wantFound(t, oneSchema(aBox("up", l...)), []string{"up", "n"}, n)
			} else {
				wantNotFound(t, l, "n")
				wantNotFound(t, oneSchema(aBox("up", l...)), "up", "n")
			}
		}
	}
	for _, kind := range kindsThatAreNone() {
		n := impl.Schema{Kind: kind, Name: "n", Kids: []impl.Schema{aLeaf("m")}}
		wantNotFound(t, oneSchema(n), "n")
		wantNotFound(t, oneSchema(n), "m")
		wantNotFound(t, oneSchema(n), "n", "m")
		wantFound(t, []impl.Schema{n, aBox("n")}, []string{"n"}, aBox("n"))
	}
}

// Schemas that are not valid may have several nodes to which names lead.
func TestFindNodeOfSchemasThatAreNotValid(t *testing.T) {
	first, second, third := aLeafOf("n", aBool()), aMany("n"), aBox("n", aLeaf("m"))
	wantFound(t, []impl.Schema{first, second}, []string{"n"}, first)
	wantFound(t, []impl.Schema{second, first, third}, []string{"n"}, second)
	wantFound(t, []impl.Schema{third, first}, []string{"n", "m"}, aLeaf("m"))
	wantFound(t, []impl.Schema{aLeaf("a"), aChoice("b", aCase("c", second)), first}, []string{"n"}, second)
	wantFound(t, []impl.Schema{aLeaf("a"), first, aChoice("b", aCase("c", second))}, []string{"n"}, first)
	wantFound(t, []impl.Schema{aChoice("b", aCase("c"), aCase("d", third)), aChoice("e", aCase("f", second))}, []string{"n"}, third)
	wantFound(t, []impl.Schema{aBox("a", second, first), aBox("a", first)}, []string{"a", "n"}, second)
	// The first node of each name is the only one below which names go on.
	wantNotFound(t, []impl.Schema{first, third}, "n", "m")
	wantNotFound(t, []impl.Schema{aBox("a", aLeaf("b")), aBox("a", aLeaf("c"))}, "a", "c")
	wantFound(t, []impl.Schema{aBox("a", aLeaf("b")), aBox("a", aLeaf("c"))}, []string{"a", "b"}, aLeaf("b"))
	// A choice of the name is none of the nodes.
	wantFound(t, []impl.Schema{aChoice("n", aCase("n", aLeaf("a"))), second}, []string{"n"}, second)
	wantFound(t, []impl.Schema{aChoice("n", aCase("n", aLeaf("a"), first)), second}, []string{"n"}, first)
	// Names that are none, and whatever has kids.
	wantFound(t, oneSchema(aBox("", aLeaf("A b"))), []string{"", "A b"}, aLeaf("A b"))
	leaf := aLeaf("n")
	leaf.Kids = oneSchema(third)
	wantFound(t, oneSchema(leaf), []string{"n", "n", "m"}, aLeaf("m"))
	wantNotFound(t, oneSchema(leaf), "n", "m")
	full := fullSchema(3)
	wantFound(t, []impl.Schema{aLeaf("a"), full}, []string{"full"}, full)
	wantFound(t, oneSchema(full), []string{"full", "full1"}, full.Kids[1])
	wantFound(t, oneSchema(full), []string{"full", "full2", "full0", "full0"}, full.Kids[2].Kids[0].Kids[0])
	wantNotFound(t, oneSchema(full), "full", "full3")
}

// endlessSchemas are nodes, or have expressions, that lie within themselves.
func endlessSchemas() [][]impl.Schema {
	all := [][]impl.Schema{}
	for kind := impl.NdBox; kind <= impl.NdUses; kind++ {
		for _, name := range []string{"a", ""} {
			one := []impl.Schema{{Kind: kind, Name: name}}
			one[0].Kids = one
			two := []impl.Schema{aLeaf("b"), {Kind: kind, Name: name}, aBox("c")}
			two[1].Kids = two
			both := []impl.Schema{{Kind: impl.NdChoice, Name: "x"}, {Kind: kind, Name: name}}
			both[0].Kids, both[1].Kids = both[1:], both
			far := []impl.Schema{aBox("a", aChoice("a", aCase("a", impl.Schema{Kind: kind, Name: name})))}
			far[0].Kids[0].Kids[0].Kids[0].Kids = far
			all = append(all, one, two, two[1:], both, both[1:], far, []impl.Schema{aLeaf("f"), one[0]}, []impl.Schema{aBox("g", two...)})
		}
	}
	for _, e := range withinItself() {
		n, other := aBox("a", aLeaf("b")), aLeaf("a")
		n.When, other.Must = []impl.Expr{e}, []impl.Expr{exNum(1), e}
		all = append(all, oneSchema(n), oneSchema(other), oneSchema(aBox("c", n)))
	}
	return all
}

// schemaWithin is so many nodes of a kind within each other.
func schemaWithin(kind int, count int) impl.Schema {
	n := aLeaf("a")
	for range count {
		n = impl.Schema{Kind: kind, Name: "a", Kids: oneSchema(n)}
	}
	return n
}

func TestLongSchemasEnd(t *testing.T) {
	inTime(t, "schemas that lie within themselves", func() {
		for i, l := range endlessSchemas() {
			if impl.IsSchema(l) {
				t.Errorf("the schema %d, which has no end, is valid", i)
			}
			impl.CountSchema(l)
			impl.DataKids(l)
			for _, way := range [][]string{{"a"}, {""}, {"x"}, {"a", "a"}, slices.Repeat([]string{"a"}, 1000)} {
				impl.FindNode(l, way)
			}
		}
	})
	inTime(t, "deep schemas", func() {
		const depth = 300000
		for kind := impl.NdBox; kind <= impl.NdUses; kind++ {
			l := oneSchema(schemaWithin(kind, depth))
			_, found := impl.FindNode(l, []string{"a"})
			if impl.IsSchema(l) || impl.CountSchema(l) != depth+1 || found != (kind != impl.NdUses) || len(impl.DataKids(l)) == 1 != found {
				t.Errorf("wrong about a deep schema of the kind %d", kind)
			}
		}
		for _, way := range []string{"not", "left"} {
			n := aLeaf("a")
			n.When, n.Must = []impl.Expr{chain(way, depth, exNum(1))}, []impl.Expr{chain(way, depth, exNum(1))}
			if l := oneSchema(n); impl.IsSchema(l) || len(impl.DataKids(l)) != 1 {
				t.Errorf("wrong about a deep expression in a schema: %s", way)
			}
		}
	})
	inTime(t, "wide schemas", func() {
		wide := slices.Repeat(oneSchema(aLeaf("a")), 200000)
		box := []impl.Schema{aBox("b"), aBox("a", wide...)}
		if impl.IsSchema(wide) || impl.IsSchema(box) || impl.CountSchema(box) != 200002 || len(impl.DataKids(wide)) != 200000 || len(impl.DataKids(box)) != 2 {
			t.Error("wrong about a wide schema")
		}
		long := strings.Repeat("a", 1000000)
		list, rules, leaf := aListOf(slices.Repeat([]string{"key"}, 200000), aLeaf("key")), aLeaf("a"), aLeafOf("a", anEnum(names(200000)...))
		rules.Must = slices.Repeat([]impl.Expr{exNum(1)}, 200000)
		if impl.IsSchema(oneSchema(list)) || impl.IsSchema(oneSchema(rules)) || impl.IsSchema(oneSchema(leaf)) || impl.IsSchema(oneSchema(aLeaf(long))) {
			t.Error("a node with too much is valid")
		}
		if _, ok := impl.FindNode(box, slices.Repeat([]string{"a"}, 200000)); ok {
			t.Error("long names are found")
		}
	})
	inTime(t, "shared kids", func() {
		// The tree that this stands for has more nodes than can be counted.
		l := oneSchema(aLeaf("a"))
		for range 200 {
			l = []impl.Schema{aBox("a", l...), aBox("b", l...)}
		}
		if impl.IsSchema(l) {
			t.Error("a schema of too many nodes is valid")
		}
		for _, count := range []int{61, 5000} {
			l = leaves(count)
			for range impl.MaxDeep + 1 {
				wide := []impl.Schema{}
				for _, s := range names(count) {
					wide = append(wide, aBox(s, l...))
				}
				l = wide
				if impl.IsSchema(l) || impl.IsSchema(oneSchema(aBox("a", l...))) {
					t.Errorf("a schema with %d kids everywhere is valid", count)
				}
			}
		}
	})
}
