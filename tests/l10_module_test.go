package tests

import (
	"fmt"
	"math"
	"math/rand/v2"
	"reflect"
	"runtime/debug"
	"slices"
	"strings"
	"testing"

	"loop.example/g03013/impl"
)

func aGroup(name string, kids ...impl.Schema) impl.Group {
	return impl.Group{Name: name, Kids: kids}
}

// anAugment has the names that stand between the `/` of the address.
func anAugment(address string, kids ...impl.Schema) impl.Augment {
	return impl.Augment{Names: strings.Split(address, "/"), Kids: kids}
}

func aModule(body ...impl.Schema) impl.Module {
	return impl.Module{Name: "m", Body: body}
}

// moduleHomes are modules with the nodes at the top of every part, alone and
// beside others, and deeper.
func moduleHomes(l ...impl.Schema) []impl.Module {
	inner := aBox("up", aChoice("mid", aCase("low", l...)), aLeaf("last"))
	return []impl.Module{
		aModule(l...),
		{Name: "m", Groups: []impl.Group{aGroup("g", l...)}},
		{Name: "m", Augments: []impl.Augment{anAugment("a/b", l...)}},
		aModule(append(append(leaves(2), l...), leaves(2)...)...),
		{Name: "m", Groups: []impl.Group{aGroup("g", aLeaf("a")), aGroup("h", inner)}, Body: leaves(1)},
		{Name: "m", Groups: []impl.Group{aGroup("g")}, Body: oneSchema(inner), Augments: []impl.Augment{anAugment("a", aUses("g"))}},
		{Name: "m", Body: leaves(1), Augments: []impl.Augment{anAugment("a", aLeaf("a")), anAugment("a", inner)}},
	}
}

func moduleWithSpare(m impl.Module) impl.Module {
	return copyWithSpare(reflect.ValueOf(m)).Interface().(impl.Module)
}

func equalModules(a impl.Module, b impl.Module) bool {
	return sameThing(reflect.ValueOf(a), reflect.ValueOf(b))
}

func shownModule(m impl.Module) string {
	return fmt.Sprintf("%.1500s", shownThing(reflect.ValueOf(m)))
}

// wantUntouchedModule is for a m that comes from moduleWithSpare(before).
func wantUntouchedModule(t *testing.T, name string, m impl.Module, before impl.Module) {
	t.Helper()
	if !equalModules(m, before) {
		t.Fatalf("%s changed its argument from %s to %s", name, shownModule(before), shownModule(m))
	}
	if !sameThing(withSpareShown(reflect.ValueOf(m)), withSpareShown(reflect.ValueOf(moduleWithSpare(before)))) {
		t.Errorf("%s changed the memory behind the lists of %s", name, shownModule(before))
	}
}

// wantModule also holds what is written of the module against the rules, and
// what is read of that against the module.
func wantModule(t *testing.T, want bool, m impl.Module) {
	t.Helper()
	given := moduleWithSpare(m)
	if got := impl.IsModule(given); got != want {
		t.Errorf("IsModule(%s) = %t", shownModule(m), got)
	}
	wantUntouchedModule(t, "IsModule", given, m)
	if byRules := isModuleByRules(m); byRules != want {
		t.Errorf("by the rules, %s would be %t", shownModule(m), byRules)
	}
	written := impl.FormatModule(given)
	wantUntouchedModule(t, "FormatModule", given, m)
	if !want {
		if written != "" {
			t.Errorf("FormatModule(%s) = %.300q, want an empty text", shownModule(m), written)
		}
		wantAsStatementsSay(t, writtenByRules(m))
		return
	}
	if byRules := writtenByRules(m); written != byRules {
		t.Errorf("FormatModule(%s) = %.1500q, want %.1500q", shownModule(m), written, byRules)
	}
	wantModuleRead(t, written, m)
}

// wantNodes is for nodes that stand together in a module.
func wantNodes(t *testing.T, want bool, l ...impl.Schema) {
	t.Helper()
	for _, m := range moduleHomes(l...) {
		wantModule(t, want, m)
	}
}

func wantModuleWritten(t *testing.T, m impl.Module, lines ...string) {
	t.Helper()
	want := strings.Join(lines, "\n") + "\n"
	if got := impl.FormatModule(m); got != want {
		t.Errorf("FormatModule(%s) = %q, want %q", shownModule(m), got, want)
	}
	wantModule(t, true, m)
}

// wantModuleRead also holds the memory of two results against each other.
func wantModuleRead(t *testing.T, s string, want impl.Module) {
	t.Helper()
	got, ok := impl.ParseModule(s)
	if !ok || !equalModules(got, want) {
		t.Fatalf("ParseModule(%.1500q) = %s, %t, want %s, true", s, shownModule(got), ok, shownModule(want))
	}
	again, _ := impl.ParseModule(s)
	places := map[uintptr]bool{}
	addMemory(t, "ParseModule of "+s, reflect.ValueOf(got), places)
	addMemory(t, "ParseModule of "+s, reflect.ValueOf(again), places)
}

func wantNoModuleRead(t *testing.T, s string) {
	t.Helper()
	if got, ok := impl.ParseModule(s); ok || !equalModules(got, impl.Module{}) {
		t.Errorf("ParseModule(%.1500q) = %s, %t, want the zero Module, false", s, shownModule(got), ok)
	}
}

// mustReadModule is the module that is written as s.
func mustReadModule(t *testing.T, s string) impl.Module {
	t.Helper()
	m, ok := impl.ParseModule(s)
	if !ok {
		t.Fatalf("ParseModule(%q) is false", s)
	}
	return m
}

// isModuleByRules asks for one rule after the other.
func isModuleByRules(m impl.Module) bool {
	parts, groups, ways := [][]impl.Schema{m.Body}, []string{}, []string{}
	for _, g := range m.Groups {
		parts, groups = append(parts, g.Kids), append(groups, g.Name)
	}
	for _, a := range m.Augments {
		if len(a.Names) < 1 || len(a.Names) > 10 {
			return false
		}
		parts, ways = append(parts, a.Kids), append(ways, a.Names...)
	}
	isNoName := func(s string) bool { return !impl.IsName(s) }
	if len(groups) > 6 || len(m.Augments) > 6 || !areDifferentByRules(groups) || slices.ContainsFunc(slices.Concat([]string{m.Name}, groups, ways), isNoName) {
		return false
	}
	all := []placed{}
	for _, part := range parts {
		all = append(all, everyPlaced(part)...)
	}
	isWrong := func(p placed) bool { return len(p.above) >= 8 || !isAloneByRules(p.node) }
	return len(all) <= 60 && !slices.ContainsFunc(all, isWrong)
}

func areDifferentByRules(l []string) bool {
	different := map[string]bool{}
	for _, s := range l {
		different[s] = true
	}
	return len(different) == len(l)
}

func isAloneByRules(n impl.Schema) bool {
	if n.Kind == impl.NdUses {
		return impl.IsName(n.Name) && equalNodes(n, aUses(n.Name))
	}
	if n.Kind < 1 || n.Kind > 6 || !impl.IsName(n.Name) || !hasJustItsFields(n) || !hasRulesInOrder(n) {
		return false
	}
	isNoName := func(s string) bool { return !impl.IsName(s) }
	switch n.Kind {
	case impl.NdList:
		areFew := len(n.Keys) >= 1 && len(n.Keys) <= 3 && len(n.Unique) <= 3 && !slices.ContainsFunc(append(slices.Clone(n.Keys), n.Unique...), isNoName)
		return areFew && areDifferentByRules(n.Keys) && areDifferentByRules(n.Unique) && areLimitsByRules(n)
	case impl.NdMany:
		return impl.IsType(n.Type) && areLimitsByRules(n)
	case impl.NdLeaf:
		if n.Given {
			return impl.IsType(n.Type) && impl.IsValue(n.Type, n.Default) && !n.Needed && len(n.When) == 0
		}
		return impl.IsType(n.Type) && n.Default == ""
	}
	return true
}

// writtenByRules writes any module, from the inside to the outside.
func writtenByRules(m impl.Module) string {
	lines := []string{}
	for _, g := range m.Groups {
		lines = append(lines, blockByRules("group "+g.Name, nodesByRules(g.Kids))...)
	}
	lines = append(lines, nodesByRules(m.Body)...)
	for _, a := range m.Augments {
		way := ""
		for _, s := range a.Names {
			way += "/" + s
		}
		lines = append(lines, blockByRules("augment "+way, nodesByRules(a.Kids))...)
	}
	return strings.Join(blockByRules("module "+m.Name, lines), "\n") + "\n"
}

func blockByRules(head string, inner []string) []string {
	lines := []string{head + " {"}
	for _, s := range inner {
		lines = append(lines, "  "+s)
	}
	return append(lines, "}")
}

func nodesByRules(l []impl.Schema) []string {
	lines := []string{}
	for _, n := range l {
		head := fmt.Sprint(n.Kind)
		if n.Kind >= impl.NdBox && n.Kind <= impl.NdUses {
			head = strings.Fields("box list leaf many choice case uses")[n.Kind-1]
		}
		head += " " + n.Name
		inner := append(propsByRules(n), nodesByRules(n.Kids)...)
		if len(inner) == 0 {
			lines = append(lines, head+";")
		} else {
			lines = append(lines, blockByRules(head, inner)...)
		}
	}
	return lines
}

func propsByRules(n impl.Schema) []string {
	lines := []string{}
	if n.Present {
		lines = append(lines, "present;")
	}
	for i, l := range [][]string{n.Keys, n.Unique} {
		if len(l) > 0 {
			lines = append(lines, fmt.Sprintf("%s %s;", []string{"key", "unique"}[i], strings.Join(l, " ")))
		}
	}
	if !sameType(n.Type, impl.Type{}) {
		lines = append(lines, fmt.Sprintf("type %s;", impl.FormatType(n.Type)))
	}
	if n.Given {
		lines = append(lines, fmt.Sprintf("default %s;", impl.QuoteText(n.Default)))
	}
	if n.Needed {
		lines = append(lines, "needed;")
	}
	if n.Fixed {
		lines = append(lines, "fixed;")
	}
	for i, count := range []int{n.Min, n.Max} {
		if count != 0 {
			lines = append(lines, fmt.Sprintf("%s %d;", []string{"min", "max"}[i], count))
		}
	}
	for i, rules := range [][]impl.Expr{n.When, n.Must} {
		for _, e := range rules {
			lines = append(lines, fmt.Sprintf("%s %s;", []string{"when", "must"}[i], impl.FormatExpr(e)))
		}
	}
	return lines
}

// A statement goes up to its `;`, or up to its `{` and what that ends.
type statement struct {
	head    []impl.Token
	isBlock bool
	inner   []statement
}

func (st statement) word() string {
	if len(st.head) > 0 && st.head[0].Kind == impl.TokName {
		return st.head[0].Text
	}
	return ""
}

func (st statement) rest() string {
	return impl.JoinTokens(st.head[1:])
}

// isNamed tells whether the head is a word and a name.
func (st statement) isNamed() bool {
	return len(st.head) == 2 && st.word() != "" && st.head[1].Kind == impl.TokName
}

// statementsOf divides tokens, whatever they mean, up to a `}` that begins in
// none of them, or to the end.
func statementsOf(l []impl.Token) ([]statement, []impl.Token, bool) {
	all := []statement{}
	st := statement{}
	for len(l) > 0 {
		token := l[0]
		isMark := token.Kind == impl.TokMark
		switch {
		case isMark && token.Text == "}":
			return all, l, len(st.head) == 0
		case isMark && token.Text == ";":
			all, st = append(all, st), statement{}
		case isMark && token.Text == "{":
			inner, behind, ok := statementsOf(l[1:])
			if !ok || len(behind) == 0 {
				return nil, nil, false
			}
			all, st = append(all, statement{st.head, true, inner}), statement{}
			l = behind
		default:
			st.head = append(st.head, token)
		}
		l = l[1:]
	}
	return all, nil, len(st.head) == 0
}

// moduleByStatements reads a module, valid or not, from the outside to the
// inside: its statements first, and then what they mean.
func moduleByStatements(s string) (impl.Module, bool) {
	tokens, bad := impl.Lex(s)
	all, behind, ok := statementsOf(tokens)
	if bad != -1 || !ok || len(behind) > 0 || len(all) != 1 || all[0].word() != "module" || !all[0].isNamed() || !all[0].isBlock {
		return impl.Module{}, false
	}
	m := impl.Module{Name: all[0].head[1].Text}
	inner := all[0].inner
	for len(inner) > 0 && inner[0].word() == "group" {
		kids, ok := nodesByStatements(inner[0].inner)
		if !ok || !inner[0].isNamed() || !inner[0].isBlock {
			return impl.Module{}, false
		}
		m.Groups, inner = append(m.Groups, aGroup(inner[0].head[1].Text, kids...)), inner[1:]
	}
	last := len(inner)
	for last > 0 && inner[last-1].word() == "augment" {
		last--
	}
	m.Body, ok = nodesByStatements(inner[:last])
	for _, st := range inner[last:] {
		p, isPath := impl.ParsePath(st.rest())
		kids, areNodes := nodesByStatements(st.inner)
		a := impl.Augment{Kids: kids}
		for _, step := range p.Steps {
			isPath = isPath && len(step.Tests) == 0
			a.Names = append(a.Names, step.Name)
		}
		m.Augments = append(m.Augments, a)
		ok = ok && isPath && p.Root && areNodes && st.isBlock
	}
	return m, ok
}

func nodesByStatements(l []statement) ([]impl.Schema, bool) {
	nodes := []impl.Schema{}
	for _, st := range l {
		kind := 1 + slices.Index(strings.Fields("box list leaf many choice case uses"), st.word())
		if kind == 0 || !st.isNamed() {
			return nil, false
		}
		n := impl.Schema{Kind: kind, Name: st.head[1].Text}
		props, last := 0, 0
		for _, st := range st.inner {
			place := 1 + slices.Index(everyProp(), st.word())
			if place == 0 {
				break
			}
			isInOrder := place > last || place == last && st.word() == "must"
			if !isInOrder || st.isBlock || !setByStatement(&n, st) {
				return nil, false
			}
			props, last = props+1, place
		}
		kids, ok := nodesByStatements(st.inner[props:])
		if !ok {
			return nil, false
		}
		n.Kids = kids
		nodes = append(nodes, n)
	}
	return nodes, true
}

func everyProp() []string {
	return strings.Fields("present key unique type default needed fixed min max when must")
}

func setByStatement(n *impl.Schema, st statement) bool {
	var ok bool
	var e impl.Expr
	switch st.word() {
	case "present":
		n.Present, ok = true, len(st.head) == 1
	case "needed":
		n.Needed, ok = true, len(st.head) == 1
	case "fixed":
		n.Fixed, ok = true, len(st.head) == 1
	case "key":
		n.Keys, ok = namesByStatement(st)
	case "unique":
		n.Unique, ok = namesByStatement(st)
	case "type":
		n.Type, ok = impl.ParseType(st.rest())
	case "default":
		n.Given = true
		n.Default, ok = impl.UnquoteText(st.rest())
	case "min":
		n.Min, ok = impl.ParseInt(st.rest())
		ok = ok && n.Min > 0
	case "max":
		n.Max, ok = impl.ParseInt(st.rest())
		ok = ok && n.Max > 0
	case "when":
		e, ok = impl.ParseExpr(st.rest())
		n.When = append(n.When, e)
	case "must":
		e, ok = impl.ParseExpr(st.rest())
		n.Must = append(n.Must, e)
	}
	return ok
}

func namesByStatement(st statement) ([]string, bool) {
	l := []string{}
	for _, token := range st.head[1:] {
		if token.Kind != impl.TokName {
			return nil, false
		}
		l = append(l, token.Text)
	}
	return l, len(l) > 0
}

// wantAsStatementsSay is not for expressions of more than 200 tokens. It tells
// whether s is a module.
func wantAsStatementsSay(t *testing.T, s string) bool {
	t.Helper()
	want, ok := moduleByStatements(s)
	if ok && isModuleByRules(want) {
		wantModuleRead(t, s, want)
		return true
	}
	wantNoModuleRead(t, s)
	return false
}

func TestMaxGroups(t *testing.T) {
	if impl.MaxGroups != 6 {
		t.Error(impl.MaxGroups)
	}
}

func TestNamesOfModulesAndGroups(t *testing.T) {
	for _, s := range []string{"a", "z-9", "abcdefghijklmn-0", "module", "group", "augment", "box", "uses", "key", "must", "or"} {
		wantModule(t, true, impl.Module{Name: s})
		wantModule(t, true, impl.Module{Name: s, Groups: []impl.Group{aGroup(s)}, Body: oneSchema(aUses(s)), Augments: []impl.Augment{anAugment(s)}})
		wantModule(t, true, impl.Module{Name: "m", Groups: []impl.Group{aGroup("g"), aGroup(s), aGroup("h")}})
	}
	for _, s := range textsThatAreNoNames() {
		wantModule(t, false, impl.Module{Name: s})
		wantModule(t, false, impl.Module{Name: s, Groups: []impl.Group{aGroup("g")}, Body: leaves(2), Augments: []impl.Augment{anAugment("a")}})
		for place := range 3 {
			groups := []impl.Group{aGroup("g"), aGroup("h", aLeaf("a")), aGroup("i")}
			groups[place].Name = s
			wantModule(t, false, impl.Module{Name: "m", Groups: groups})
			wantModule(t, false, impl.Module{Name: "m", Groups: groups[place : place+1], Body: leaves(2)})
		}
	}
	wantModule(t, false, impl.Module{})
}

func TestGroupsOfOneName(t *testing.T) {
	for s, want := range map[string]bool{"a": true, "ab": true, "aa": false, "abc": true, "aba": false, "aab": false, "abb": false, "abcdef": true, "abcdea": false, "abcdee": false, "bacdeb": false} {
		m := aModule(leaves(1)...)
		for _, name := range strings.Split(s, "") {
			m.Groups = append(m.Groups, aGroup(name, aLeaf(name)))
		}
		wantModule(t, want, m)
	}
	// A group may have the name of the module, of a node, and of one in itself.
	wantModule(t, true, impl.Module{Name: "m", Groups: []impl.Group{aGroup("m", aLeaf("m")), aGroup("a", aUses("a"))}, Body: []impl.Schema{aBox("a"), aLeaf("m")}})
	wantModule(t, false, impl.Module{Name: "m", Groups: []impl.Group{aGroup("g", aLeaf("a")), aGroup("g", aLeaf("b"))}})
}

func TestNumberOfGroupsAndAugments(t *testing.T) {
	for count := range 20 {
		m := impl.Module{Name: "m", Groups: make([]impl.Group, count)}
		for i := range count {
			m.Groups[i].Name = "g" + impl.FormatInt(i)
		}
		wantModule(t, count <= impl.MaxGroups, m)
		m.Body = leaves(2)
		wantModule(t, count <= impl.MaxGroups, m)
		both := m
		both.Augments = slices.Repeat([]impl.Augment{anAugment("a")}, impl.MaxGroups)
		wantModule(t, count <= impl.MaxGroups, both)
		m.Augments = slices.Repeat([]impl.Augment{anAugment("a/b", aLeaf("c"))}, count)
		wantModule(t, count <= impl.MaxGroups, m)
		m.Groups = nil
		wantModule(t, count <= impl.MaxGroups, m)
		both.Groups, both.Augments = slices.Clone(both.Groups[:min(count, impl.MaxGroups)]), m.Augments
		wantModule(t, count <= impl.MaxGroups, both)
	}
}

func TestNamesOfAugments(t *testing.T) {
	for count := range 20 {
		want := count >= 1 && count <= impl.MaxSteps
		wantModule(t, want, impl.Module{Name: "m", Augments: []impl.Augment{{Names: names(count)}}})
		wantModule(t, want, impl.Module{Name: "m", Body: leaves(1), Augments: []impl.Augment{anAugment("a"), {Names: names(count), Kids: leaves(2)}, anAugment("b")}})
		wantModule(t, want, impl.Module{Name: "m", Augments: []impl.Augment{{Names: slices.Repeat([]string{"a"}, count)}}})
	}
	for _, s := range textsThatAreNoNames() {
		for place := range 3 {
			way := []string{"a", "b", "c"}
			way[place] = s
			wantModule(t, false, impl.Module{Name: "m", Augments: []impl.Augment{{Names: way}}})
			wantModule(t, false, impl.Module{Name: "m", Augments: []impl.Augment{{Names: way[place : place+1]}}})
			wantModule(t, false, impl.Module{Name: "m", Augments: []impl.Augment{anAugment("a"), {Names: way}, anAugment("b")}})
		}
	}
	// Where the names lead is not asked, nor that they differ.
	wantModule(t, true, impl.Module{Name: "m", Body: oneSchema(aLeaf("a")), Augments: []impl.Augment{anAugment("a/a", aLeaf("b")), anAugment("none"), anAugment("a/a", aLeaf("b")), anAugment("uses/group")}})
}

// What nodes of each kind may have, when it does not matter which kids they have.
func fieldsInModules() map[int][]string {
	return map[int][]string{
		impl.NdBox:    {"Present", "When", "Must", "Kids", "Cases"},
		impl.NdList:   {"Keys", "Unique", "Min, Max", "When", "Must", "Kids", "Cases"},
		impl.NdLeaf:   {"Type", "Needed", "Fixed", "When", "Must", "Given"},
		impl.NdMany:   {"Type", "Min, Max", "When", "Must"},
		impl.NdChoice: {"Needed", "When", "Kids", "Cases"},
		impl.NdCase:   {"When", "Kids", "Cases"},
		impl.NdUses:   {},
	}
}

func TestFieldsOfEveryKindInModules(t *testing.T) {
	for kind, fields := range fieldsInModules() {
		wantNodes(t, true, oneOfEveryKind()[kind])
		for name, changes := range fieldChanges() {
			for _, change := range changes {
				n := oneOfEveryKind()[kind]
				change(&n)
				wantNodes(t, slices.Contains(fields, name), n)
			}
		}
	}
	// What is empty may be nil or not.
	for _, n := range oneOfEveryKind()[1:] {
		n.Keys, n.Unique, n.When, n.Must, n.Kids = append([]string{}, n.Keys...), []string{}, []impl.Expr{}, []impl.Expr{}, append([]impl.Schema{}, n.Kids...)
		n.Type.Ranges, n.Type.Names = []impl.Range{}, []string{}
		wantNodes(t, true, n)
	}
	for _, kind := range kindsThatAreNone() {
		for _, n := range oneOfEveryKind() {
			n.Kind = kind
			wantNodes(t, false, n)
		}
		wantNodes(t, false, impl.Schema{Kind: kind, Name: "n"})
	}
	wantNodes(t, false, impl.Schema{})
	wantNodes(t, false, fullSchema(0))
	wantNodes(t, false, fullSchema(2))
}

// fullNodes have all at once that their kinds may have.
func fullNodes() []impl.Schema {
	when, must := []impl.Expr{exName("a")}, []impl.Expr{exName("a"), exNum(0), exOf(impl.ExEq, exCount(fromRoot()), exText(`"`))}
	return []impl.Schema{
		{Kind: impl.NdBox, Name: "n", Present: true, When: when, Must: must, Kids: []impl.Schema{aLeaf("a")}},
		{Kind: impl.NdList, Name: "n", Keys: []string{"c", "a"}, Unique: []string{"a", "b"}, Min: 1, Max: 2, When: when, Must: must, Kids: []impl.Schema{aLeaf("a"), aBox("d")}},
		{Kind: impl.NdLeaf, Name: "n", Type: anInt(), Needed: true, Fixed: true, When: when, Must: must},
		{Kind: impl.NdLeaf, Name: "n", Type: anInt(span(0, 9)), Given: true, Default: "7", Fixed: true, Must: must},
		{Kind: impl.NdMany, Name: "n", Type: aText("a*", span(1, 3)), Min: 1, Max: 2, When: when, Must: must},
		{Kind: impl.NdChoice, Name: "n", Needed: true, When: when, Kids: []impl.Schema{aCase("a"), aLeaf("b")}},
		{Kind: impl.NdCase, Name: "n", When: when, Kids: []impl.Schema{aLeaf("a"), aCase("b")}},
		aUses("n"),
	}
}

func TestNodesWithAllFieldsInModules(t *testing.T) {
	// Some kinds may have all that others may have.
	also := map[int][]int{impl.NdCase: {impl.NdBox, impl.NdChoice}, impl.NdUses: {impl.NdBox, impl.NdChoice, impl.NdCase}}
	for _, n := range fullNodes() {
		wantNodes(t, true, n)
		for kind := impl.NdBox; kind <= impl.NdUses; kind++ {
			other := n
			other.Kind = kind
			wantNodes(t, kind == n.Kind || slices.Contains(also[n.Kind], kind), other)
		}
		n.Kids = append(slices.Clone(n.Kids), aUses("b"))
		wantNodes(t, n.Kind != impl.NdLeaf && n.Kind != impl.NdMany && n.Kind != impl.NdUses, n)
	}
}

func TestNamesOfNodesInModules(t *testing.T) {
	for _, n := range oneOfEveryKind()[1:] {
		for _, s := range []string{"a", "z-9", "abcdefghijklmn-0", "or", "box", "must", "module"} {
			n.Name = s
			wantNodes(t, true, n)
		}
		for _, s := range textsThatAreNoNames() {
			n.Name = s
			wantNodes(t, false, n)
		}
	}
}

// Chapter 9 does not allow these schemas, but each of their nodes by itself.
func TestWhereNodesStandInModules(t *testing.T) {
	for _, l := range [][]impl.Schema{
		{aCase("a")}, {aCase("a", aLeaf("b"))}, {aBox("a", aCase("b"))}, {aList("a", aCase("b"))}, {aCase("a", aCase("b", aCase("c")))},
		{aChoice("a", aLeaf("b"))}, {aChoice("a", aBox("b"), aCase("c"))}, {aChoice("a", aChoice("b", aMany("c")))}, {aChoice("a", aUses("b"))},
		{aLeaf("a"), aLeaf("a")}, {aBox("a", aLeaf("b"), aBox("b"))}, {aLeaf("a"), aChoice("b", aCase("c", aLeaf("a")))}, {aChoice("a", aCase("b"), aCase("b"))}, {aUses("a"), aUses("a"), aLeaf("a")},
		{aListOf([]string{"none"})}, {aListOf([]string{"none"}, aLeaf("a"))}, {aListOf([]string{"a", "b"}, aBox("a"), aMany("b"))}, {aListOf([]string{"a"}, aBox("b", aLeaf("a")))}, {aListOf([]string{"a"}, aUses("a"))},
		{aListOf([]string{"a"}, withWhen(aLeaf("a")))}, {aListOf([]string{"a"}, aGiven("a", anInt(), "7"))}, {aListOf([]string{"a"}, aLeafOf("a", aFlag()))},
		{{Kind: impl.NdList, Name: "n", Keys: []string{"a"}, Unique: []string{"none", "b", "n"}, Kids: []impl.Schema{aLeaf("a"), aBox("b")}}},
		{withWhen(aBox("a", aGiven("b", anInt(), "7")))}, {withWhen(aList("a", aBox("c", aGiven("b", anInt(), "7"))))}, {aChoice("a", aCase("c", aGiven("b", anInt(), "7")))}, {withWhen(aChoice("a", aGiven("b", anInt(), "7")))}, {withWhen(aCase("a", aGiven("b", aText(""), "")))},
	} {
		if impl.IsSchema(l) {
			t.Errorf("%s is valid by chapter 9", shownSchemas(l))
		}
		wantNodes(t, true, l...)
	}
	// These are wrong by themselves.
	for _, kind := range []int{impl.NdLeaf, impl.NdMany, impl.NdUses} {
		for _, kid := range oneOfEveryKind()[1:] {
			n := oneOfEveryKind()[kind]
			n.Kids = oneSchema(kid)
			wantNodes(t, false, n)
		}
	}
	wantNodes(t, false, withWhen(aGiven("a", anInt(), "7")))
	wantNodes(t, false, withWhen(aGiven("a", aText(""), "")))
	wantNodes(t, false, withWhen(aUses("a")))
}

// Just one node is wrong, at every place of a module that is right.
func TestOneWrongNodeAnywhereInAModule(t *testing.T) {
	build := func(l []impl.Schema) impl.Module {
		return impl.Module{
			Name:     "m",
			Groups:   []impl.Group{aGroup("g", aLeaf("a"), l[0]), aGroup("h", aBox("b", l[1], aUses("g")))},
			Body:     []impl.Schema{l[2], aUses("g"), aChoice("c", aCase("d", aLeaf("e"), l[3]), l[4])},
			Augments: []impl.Augment{anAugment("b", l[5]), anAugment("b", aList("f", l[6]), aMany("g"), aBox("h", aBox("i", l[7])))},
		}
	}
	fine := slices.Repeat(oneSchema(aUses("u")), 8)
	wantModule(t, true, build(fine))
	wrong := []impl.Schema{aLeaf("A"), aLeafOf("s", impl.Type{}), withWhen(aUses("s")), {Kind: 8, Name: "s"}, {Name: "s"}, aListOf(nil), aListOf([]string{"A"}), {Kind: impl.NdBox, Name: "s", Fixed: true}, {Kind: impl.NdMany, Name: "s", Type: anInt(), Min: -1}}
	for _, n := range wrong {
		for place := range fine {
			l := slices.Clone(fine)
			l[place] = n
			wantModule(t, false, build(l))
		}
	}
}

func TestKeysInModules(t *testing.T) {
	for count := range 8 {
		n := aListOf(names(count))
		wantNodes(t, count >= 1 && count <= impl.MaxTests, n)
		n.Keys, n.Unique = []string{"key"}, names(count)
		wantNodes(t, count <= impl.MaxTests, n)
	}
	for s, want := range map[string]bool{"a": true, "ab": true, "ba": true, "abc": true, "aa": false, "aba": false, "aab": false, "baa": false, "aaa": false, "abca": false} {
		keys := strings.Split(s, "")
		n := aListOf(keys)
		wantNodes(t, want, n)
		n.Keys, n.Unique = []string{"key"}, keys
		wantNodes(t, want, n)
		n.Keys, n.Unique = []string{"a", "b", "c"}, keys
		wantNodes(t, want, n)
	}
	for _, s := range textsThatAreNoNames() {
		for place := range impl.MaxTests {
			keys := []string{"a", "b", "c"}
			keys[place] = s
			for _, l := range [][]string{keys, keys[place : place+1], keys[:place+1]} {
				n := aListOf(slices.Clone(l), leaves(2)...)
				wantNodes(t, false, n)
				n.Keys, n.Unique = []string{"key"}, slices.Clone(l)
				wantNodes(t, false, n)
			}
		}
	}
	wantNodes(t, true, aListOf([]string{"box", "key", "type"}))
	wantNodes(t, false, aListOf(slices.Repeat([]string{"key"}, 200)))
}

func TestLimitsInModules(t *testing.T) {
	numbers := []int{0, 1, 2, 9, 10, impl.MaxNumber - 1, impl.MaxNumber, -1, -impl.MaxNumber, impl.MaxNumber + 1, 1 << 32, 1<<32 + 1, math.MaxInt, math.MinInt}
	for _, least := range numbers {
		for _, most := range numbers {
			areNumbers := least >= 0 && least <= 1000000000 && most >= 0 && most <= 1000000000
			for _, n := range []impl.Schema{aList("n"), aMany("n")} {
				n.Min, n.Max = least, most
				wantModule(t, areNumbers && (most == 0 || least <= most), aModule(n))
			}
		}
	}
}

func TestTypesAndDefaultsInModules(t *testing.T) {
	for _, ty := range someTypes() {
		many := aMany("n")
		many.Type = ty
		wantNodes(t, true, aLeafOf("n", ty), many)
		for _, s := range mixedValues() {
			wantModule(t, impl.IsValue(ty, s), aModule(aGiven("n", ty, s)))
			wantModule(t, s == "", aModule(impl.Schema{Kind: impl.NdLeaf, Name: "n", Type: ty, Default: s}))
		}
	}
	for _, ty := range wrongTypes() {
		many := aMany("n")
		many.Type = ty
		for _, n := range []impl.Schema{many, aLeafOf("n", ty), aGiven("n", ty, "1")} {
			wantModule(t, false, aModule(n))
			wantModule(t, false, impl.Module{Name: "m", Groups: []impl.Group{aGroup("g", aBox("a", n))}})
		}
	}
	for _, s := range []string{"", " ", `"`, `\`, `\"`, "{", "}", ";", "#", "a b", "  }", strings.Repeat(`"`, impl.MaxText)} {
		wantNodes(t, true, aGiven("n", aText(""), s))
	}
	wantNodes(t, true, aGiven("n", aFlag(), ""))
	wantNodes(t, false, aGiven("n", aFlag(), "true"))
	wantNodes(t, false, aGiven("n", aText("", span(1, 9)), ""))
}

func TestRulesInModules(t *testing.T) {
	good := []impl.Expr{exNum(1), exName("a"), exOf(impl.ExEq, exName("a"), exText(";")), chain("left", impl.MaxDeep-1, exNum(1))}
	for kind, n := range oneOfEveryKind()[1:] {
		kind++
		hasMust := kind <= impl.NdMany
		for count := range 6 {
			rules := slices.Repeat(good, 2)[:count]
			n.When, n.Must = rules, nil
			wantNodes(t, count == 0 || count == 1 && kind != impl.NdUses, n)
			n.When, n.Must = nil, rules
			wantNodes(t, count == 0 || hasMust && count <= impl.MaxMust, n)
			if kind != impl.NdUses {
				n.When, n.Must = good[:1], rules
				wantNodes(t, count == 0 || hasMust && count <= impl.MaxMust, n)
			}
		}
		for _, e := range wrongExprs() {
			n.When, n.Must = []impl.Expr{e}, nil
			wantNodes(t, false, n)
			for place := range impl.MaxMust {
				n.When, n.Must = nil, slices.Clone(good[:impl.MaxMust])
				n.Must[place] = e
				wantNodes(t, false, n)
			}
		}
	}
	for _, e := range smallExprs() {
		n := aBox("n")
		n.When, n.Must = []impl.Expr{e}, []impl.Expr{e, e}
		wantModule(t, true, aModule(n))
	}
}

// shared divides so many nodes over all parts of a module, in each of the ways.
func shared(count int, way int) impl.Module {
	m := impl.Module{Name: "m", Groups: []impl.Group{aGroup("g"), aGroup("h")}, Augments: []impl.Augment{anAugment("a"), anAugment("b")}}
	parts := []*[]impl.Schema{&m.Groups[0].Kids, &m.Body, &m.Augments[0].Kids, &m.Groups[1].Kids, &m.Augments[1].Kids}
	for i := range count {
		place := i % len(parts)
		if way < len(parts) {
			place = way
		}
		*parts[place] = append(*parts[place], aUses("n"+impl.FormatInt(i)))
	}
	return m
}

func TestNumberOfNodesInModules(t *testing.T) {
	for _, count := range []int{0, 1, 2, 3, 4, 5, 6, 7, 30, 57, 58, 59, 60, 61, 62, 63, 64, 65, 66, 90, 120, 180, 300} {
		for way := range 6 {
			wantModule(t, count <= impl.MaxNodes, shared(count, way))
		}
		if count < 3 {
			continue
		}
		// One part has most of them, at some depth, and others few.
		wantModule(t, count <= impl.MaxNodes, impl.Module{Name: "m", Groups: []impl.Group{aGroup("g", aBox("a", leaves(count-3)...))}, Body: leaves(1), Augments: []impl.Augment{anAugment("a", aUses("g"))}})
		wantModule(t, count <= impl.MaxNodes, impl.Module{Name: "m", Groups: []impl.Group{aGroup("g", leaves(1)...)}, Body: leaves(count - 3), Augments: []impl.Augment{anAugment("a", aBox("b", aUses("g")))}})
		wantModule(t, count <= impl.MaxNodes, impl.Module{Name: "m", Groups: []impl.Group{aGroup("g", leaves(1)...)}, Body: leaves(1), Augments: []impl.Augment{anAugment("a", aChoice("b", leaves(count-3)...))}})
	}
	for _, kind := range []int{impl.NdBox, impl.NdChoice, impl.NdCase} {
		for count := 1; count <= 40; count++ {
			l := []impl.Schema{}
			for range count {
				l = append(l, impl.Schema{Kind: kind, Name: "a", Kids: []impl.Schema{aLeaf("b"), aMany("c")}})
			}
			wantModule(t, 3*count <= impl.MaxNodes, aModule(l...))
			wantModule(t, 3*count+1 <= impl.MaxNodes, impl.Module{Name: "m", Groups: []impl.Group{aGroup("g", l...)}, Augments: []impl.Augment{anAugment("a", aUses("g"))}})
		}
	}
}

func TestDepthOfModules(t *testing.T) {
	for _, n := range oneOfEveryKind()[1:] {
		height := 1 + len(n.Kids)
		for _, kind := range []int{impl.NdBox, impl.NdChoice, impl.NdCase} {
			for count := range 12 {
				deep := n
				for range count {
					deep = impl.Schema{Kind: kind, Name: "a", Kids: []impl.Schema{deep}}
				}
				want := count+height <= impl.MaxDeep
				for _, l := range [][]impl.Schema{{deep}, append(leaves(2), deep), append(oneSchema(deep), leaves(2)...)} {
					wantModule(t, want, aModule(l...))
					wantModule(t, want, impl.Module{Name: "m", Groups: []impl.Group{aGroup("g"), aGroup("h", l...)}, Body: leaves(1)})
					wantModule(t, want, impl.Module{Name: "m", Body: leaves(1), Augments: []impl.Augment{anAugment("a/b/c", l...), anAugment("a")}})
				}
			}
		}
	}
	// Seven levels that have a list, and others beside them.
	eight := below(slices.Repeat([]int{impl.NdList}, impl.MaxDeep-1), aUses("g"))
	wantModule(t, true, impl.Module{Name: "m", Groups: []impl.Group{aGroup("g", eight...)}, Body: eight, Augments: []impl.Augment{anAugment("a", eight...)}})
	wantModule(t, false, impl.Module{Name: "m", Groups: []impl.Group{aGroup("g", eight...)}, Body: eight, Augments: []impl.Augment{anAugment("a", aBox("b", eight...))}})
	wantModule(t, false, impl.Module{Name: "m", Groups: []impl.Group{aGroup("g", eight...)}, Body: oneSchema(aBox("b", eight...))})
	wantModule(t, false, impl.Module{Name: "m", Groups: []impl.Group{aGroup("g", aBox("b", eight...))}, Body: eight})
}

func TestWrittenModules(t *testing.T) {
	wantModuleWritten(t, aModule(), "module m {", "}")
	wantModuleWritten(t, impl.Module{Name: "m-1", Groups: []impl.Group{aGroup("g")}}, "module m-1 {", "  group g {", "  }", "}")
	wantModuleWritten(t, impl.Module{Name: "m", Augments: []impl.Augment{anAugment("a")}}, "module m {", "  augment /a {", "  }", "}")
	wantModuleWritten(t, aModule(aBox("a"), aUses("b"), aChoice("c"), aCase("d")), "module m {", "  box a;", "  uses b;", "  choice c;", "  case d;", "}")
	wantModuleWritten(t, aModule(aLeaf("a"), aMany("b"), aListOf([]string{"k"})),
		"module m {",
		"  leaf a {", "    type int;", "  }",
		"  many b {", "    type int;", "  }",
		"  list list {", "    key k;", "  }",
		"}")
	wantModuleWritten(t, aModule(aBox("a", aBox("b"), aBox("c", aUses("d")))), "module m {", "  box a {", "    box b;", "    box c {", "      uses d;", "    }", "  }", "}")
	wantModuleWritten(t,
		impl.Module{Name: "m", Groups: []impl.Group{aGroup("h", aUses("g")), aGroup("g", aBox("a", aUses("h")))}, Body: []impl.Schema{aUses("h"), aUses("g")}, Augments: []impl.Augment{anAugment("b/a/b", aUses("g")), anAugment("a/b", aBox("c", aUses("h"))), anAugment("a/b")}},
		"module m {",
		"  group h {", "    uses g;", "  }",
		"  group g {", "    box a {", "      uses h;", "    }", "  }",
		"  uses h;", "  uses g;",
		"  augment /b/a/b {", "    uses g;", "  }",
		"  augment /a/b {", "    box c {", "      uses h;", "    }", "  }",
		"  augment /a/b {", "  }",
		"}")
	deep := aUses("g")
	lines := []string{strings.Repeat("  ", impl.MaxDeep) + "uses g;"}
	for level := impl.MaxDeep - 1; level >= 1; level-- {
		deep = aBox("a", deep)
		lines = append(append([]string{strings.Repeat("  ", level) + "box a {"}, lines...), strings.Repeat("  ", level)+"}")
	}
	wantModuleWritten(t, aModule(deep), slices.Concat([]string{"module m {"}, lines, []string{"}"})...)
}

// wantProps is for a node with these props alone.
func wantProps(t *testing.T, n impl.Schema, head string, props ...string) {
	t.Helper()
	lines, deep := []string{"module m {", "  " + head + " {"}, []string{"module m {", "  group g {", "    box up {", "      " + head + " {"}
	for _, prop := range props {
		lines, deep = append(lines, "    "+prop+";"), append(deep, "        "+prop+";")
	}
	wantModuleWritten(t, aModule(n), append(lines, "  }", "}")...)
	wantModuleWritten(t, impl.Module{Name: "m", Groups: []impl.Group{aGroup("g", aBox("up", n))}}, append(deep, "      }", "    }", "  }", "}")...)
	if n.Kind != impl.NdLeaf && n.Kind != impl.NdMany {
		// With a kid behind the props.
		n.Kids = append(n.Kids, aUses("g"))
		wantModuleWritten(t, aModule(n), append(lines, "    uses g;", "  }", "}")...)
		wantModuleWritten(t, impl.Module{Name: "m", Augments: []impl.Augment{anAugment("a", n)}}, append(append([]string{"module m {", "  augment /a {", "    " + head + " {"}, changeEach(props, "      ", ";")...), "      uses g;", "    }", "  }", "}")...)
	}
}

func changeEach(l []string, before string, behind string) []string {
	changed := []string{}
	for _, s := range l {
		changed = append(changed, before+s+behind)
	}
	return changed
}

func TestOrderOfWrittenProps(t *testing.T) {
	a, b := exName("a"), exOf(impl.ExOr, exName("b"), exText(`\"`))
	box := impl.Schema{Kind: impl.NdBox, Name: "n", Present: true, When: []impl.Expr{b}, Must: []impl.Expr{b, a, exNum(1)}}
	wantProps(t, box, "box n", "present", `when b or "\\\""`, `must b or "\\\""`, "must a", "must 1")
	list := impl.Schema{Kind: impl.NdList, Name: "n", Keys: []string{"c", "a", "b"}, Unique: []string{"b", "a"}, Min: 1, Max: impl.MaxNumber, When: []impl.Expr{a}, Must: []impl.Expr{b}}
	wantProps(t, list, "list n", "key c a b", "unique b a", "min 1", "max 1000000000", "when a", `must b or "\\\""`)
	leaf := impl.Schema{Kind: impl.NdLeaf, Name: "n", Type: anInt(one(0)), Given: true, Default: "0", Fixed: true, Must: []impl.Expr{a, a}}
	wantProps(t, leaf, "leaf n", "type int 0", `default "0"`, "fixed", "must a", "must a")
	needed := impl.Schema{Kind: impl.NdLeaf, Name: "n", Type: aText("a*", span(0, 9), one(12)), Needed: true, Fixed: true, When: []impl.Expr{b}, Must: []impl.Expr{a}}
	wantProps(t, needed, "leaf n", `type text 0..9|12 "a*"`, "needed", "fixed", `when b or "\\\""`, "must a")
	many := impl.Schema{Kind: impl.NdMany, Name: "n", Type: anEnum("type", "min", "a"), Min: impl.MaxNumber, Max: impl.MaxNumber, When: []impl.Expr{a}, Must: []impl.Expr{b}}
	wantProps(t, many, "many n", "type enum type min a", "min 1000000000", "max 1000000000", "when a", `must b or "\\\""`)
	choice := impl.Schema{Kind: impl.NdChoice, Name: "n", Needed: true, When: []impl.Expr{a}}
	wantProps(t, choice, "choice n", "needed", "when a")
	wantProps(t, withWhen(aCase("n")), "case n", "when a")
	// A limit of 0 is not written, and a default that is the empty text is.
	list.Min, list.Unique, list.Must, list.When = 0, nil, nil, nil
	wantProps(t, list, "list n", "key c a b", "max 1000000000")
	list.Min, list.Max = 7, 0
	wantProps(t, list, "list n", "key c a b", "min 7")
	list.Min = 0
	wantProps(t, list, "list n", "key c a b")
	wantProps(t, aGiven("n", aText(""), ""), "leaf n", "type text", `default ""`)
	wantProps(t, aGiven("n", aFlag(), ""), "leaf n", "type flag", `default ""`)
	wantProps(t, aGiven("n", aText(""), `a\"b`), "leaf n", "type text", `default "a\\\"b"`)
	wantProps(t, aLeafOf("n", aRef(`/a[b="c"]`)), "leaf n", `type ref "/a[b=\"c\"]"`)
	for ty, s := range map[string]impl.Type{"int -1000000000..1000000000": anInt(span(-impl.MaxNumber, impl.MaxNumber)), "bool": aBool(), "flag": aFlag(), `text "a|;"`: {}} {
		if s.Kind != 0 {
			wantProps(t, aLeafOf("n", s), "leaf n", "type "+ty)
		} else {
			wantNoModuleRead(t, "module m { leaf n { type "+ty+"; } }")
		}
	}
}

// In an expression of a module there may be more tokens than in one alone.
func TestLongExprsInModules(t *testing.T) {
	leaf := exPath(fromAbove(impl.MaxUps, slices.Repeat([]impl.Step{aStep("a", testsOf(impl.MaxTests)...)}, impl.MaxSteps)...))
	for depth := 1; depth <= impl.MaxDeep; depth++ {
		n := aBox("n")
		n.When, n.Must = []impl.Expr{fullExpr(depth, leaf, exNum(7))}, []impl.Expr{fullExpr(depth, exNum(1), exNum(2)), exNot(exNum(3)), fullExpr(depth, exCount(fromRoot()))}
		m := impl.Module{Name: "m", Groups: []impl.Group{aGroup("g", n)}, Body: oneSchema(n)}
		written := impl.FormatModule(m)
		if written != writtenByRules(m) {
			t.Fatalf("FormatModule(%s) = %.1000q", shownModule(m), written)
		}
		wantModuleRead(t, written, m)
		deeper := aBox("n")
		deeper.Must = []impl.Expr{fullExpr(depth+1, exNum(1))}
		if got := impl.FormatModule(aModule(deeper)); (got == "") != (depth == impl.MaxDeep) {
			t.Errorf("an expression of the depth %d is written %.300q", depth+1, got)
		}
	}
	for count := range 99 {
		for _, prop := range []string{"when", "must"} {
			s := "module m { box a { " + prop + " " + withBrackets(count, "b") + " = 1; } }"
			if count > 64 {
				wantNoModuleRead(t, s)
				continue
			}
			n, e := aBox("a"), []impl.Expr{exOf(impl.ExEq, exName("b"), exNum(1))}
			if n.When = e; prop == "must" {
				n.When, n.Must = nil, e
			}
			wantModuleRead(t, s, aModule(n))
		}
	}
	for count := 1; count <= 300; count += 7 {
		wantAsStatementsSay(t, "module m { box a { must "+strings.Repeat("1 + ", min(count, 80))+"1; } }")
		if count >= impl.MaxDeep {
			wantNoModuleRead(t, "module m { box a { must "+strings.Repeat("1 + ", count)+"1; } }")
		}
	}
}

// propForms are statements of every prop, in the order of the props.
func propForms() []string {
	return []string{"present;", "key a;", "unique b c;", "type int 0..9;", `default "7";`, "needed;", "fixed;", "min 1;", "max 2;", "when a;", "must b;"}
}

// propsOfKinds are the props that nodes may have, and the first of them which
// they must have.
func propsOfKinds() map[string]struct{ may, least string } {
	return map[string]struct{ may, least string }{
		"box": {"present when must", ""}, "list": {"key unique min max when must", "key"}, "leaf": {"type default needed fixed when must", "type"}, "many": {"type min max when must", "type"}, "choice": {"needed when", ""}, "case": {"when", ""}, "uses": {"", ""},
	}
}

// arePropsOf tells of some of propForms whether they may stand in a node like
// this; "" is no prop.
func arePropsOf(kind string, props []string) bool {
	rules := propsOfKinds()[kind]
	words := []string{}
	for _, prop := range props {
		if prop != "" {
			words = append(words, strings.TrimRight(strings.Fields(prop)[0], ";"))
		}
	}
	for i, word := range words {
		isLate := i > 0 && slices.Index(everyProp(), word) <= slices.Index(everyProp(), words[i-1])
		isThird := i > 2 && words[i-3] == word
		if !slices.Contains(strings.Fields(rules.may), word) || isLate && (word != "must" || words[i-1] != word) || isThird {
			return false
		}
	}
	areBoth := func(a string, b string) bool { return slices.Contains(words, a) && slices.Contains(words, b) }
	if areBoth("default", "needed") || areBoth("default", "when") {
		return false
	}
	return rules.least == "" || slices.Contains(words, rules.least)
}

// wantPropsRead tells of a node with these props, and with nodes behind them,
// whether it is read.
func wantPropsRead(t *testing.T, kind string, props []string) bool {
	t.Helper()
	want := arePropsOf(kind, props)
	for _, behind := range []string{"", "uses u;", "box u { } leaf l { type int; }"} {
		s := "module m { " + kind + " n { " + strings.Join(props, " ") + behind + " } }"
		mayHaveKids := kind != "leaf" && kind != "many" && kind != "uses"
		if got := wantAsStatementsSay(t, s); got != (want && (behind == "" || mayHaveKids)) {
			t.Errorf("ParseModule(%q) is %t", s, got)
		}
	}
	return want
}

func TestOrderOfReadProps(t *testing.T) {
	read := 0
	for kind := range propsOfKinds() {
		for _, first := range propForms() {
			for _, second := range append(propForms(), "") {
				for _, third := range append(propForms(), "") {
					if wantPropsRead(t, kind, []string{first, second, third}) {
						read++
					}
				}
			}
		}
	}
	if read < 70 {
		t.Errorf("only %d of the rows are read", read)
	}
}

// One of all the props that a node may have together is left out, put at
// another place, or put in twice.
func TestPropsOutOfOrder(t *testing.T) {
	for kind, rules := range propsOfKinds() {
		for _, without := range []string{"default", "needed when"} {
			all := []string{}
			for i, prop := range propForms() {
				if word := everyProp()[i]; slices.Contains(strings.Fields(rules.may), word) && (kind != "leaf" || !slices.Contains(strings.Fields(without), word)) {
					all = append(all, prop)
				}
			}
			if !wantPropsRead(t, kind, all) {
				t.Errorf("%s may not have %q", kind, all)
			}
			for at, prop := range all {
				left := slices.Delete(slices.Clone(all), at, at+1)
				wantPropsRead(t, kind, left)
				for to := range len(left) + 1 {
					wantPropsRead(t, kind, slices.Insert(slices.Clone(left), to, prop))
					wantPropsRead(t, kind, slices.Insert(slices.Clone(all), to, prop))
				}
				// Behind a node no prop is right.
				for _, row := range []string{strings.Join(left[:at], " ") + " uses u; " + strings.Join(all[at:], " "), strings.Join(all, " ") + " uses u; " + prop, "uses u; " + prop} {
					wantNoModuleRead(t, "module m { "+kind+" n { "+row+" } }")
				}
			}
		}
	}
	for count := range 7 {
		s := "module m { box n { " + strings.Repeat("must a; ", count) + "} }"
		if count <= impl.MaxMust {
			n := aBox("n")
			n.Must = slices.Repeat([]impl.Expr{exName("a")}, count)
			wantModuleRead(t, s, aModule(n))
		} else {
			wantNoModuleRead(t, s)
		}
	}
}

// wantNoProp is for a prop that is wrong wherever it stands.
func wantNoProp(t *testing.T, prop string) {
	t.Helper()
	for _, head := range []string{"box n {", "list n { key a;", "leaf n { type int;", "many n { type int;", "choice n {", "case n {", "uses n {", "leaf n {", "list n {", "many n {"} {
		wantNoModuleRead(t, "module m { "+head+" "+prop+" } }")
		wantNoModuleRead(t, "module m { group g { "+head+" "+prop+" uses a; } } }")
	}
}

func TestPropsThatAreWrong(t *testing.T) {
	for _, prop := range []string{
		"min 0;", "max 0;", "min 00;", "min -1;", "max -1;", "min 01;", "max 007;", "min +1;", "min 1000000001;", "max 99999999999999999999;", "min 18446744073709551617;", "min;", "max;", "min 1 2;", "min one;", `min "1";`, "min 1..2;", "min 1.0;", "max 1", "min 1, max 2;", "min - 1;", "min -0;", "min 2; max 1;", "min { }", "min 1 { }",
		"present", "present 1;", "present true;", "present { }", "needed true;", "needed", "needed { }", "fixed false;", "fixed", `needed "";`,
		"key;", "key a", `key "a";`, "key a, b;", "key a b c d;", "key a a;", "key A;", "key 1;", "key a/b;", "key a-;", "key abcdefghijklmnopq;", "key { }", "key a { }", "key / a;",
		"unique;", `unique "a";`, "unique a b c d;", "unique a a;", "unique a; unique b;", "unique abcdefghijklmnopq;", "unique { }",
		"type;", "type none;", `type "int";`, "type int", "type int int;", "type int 9..0;", "type int 1|2;", "type bool 1;", "type enum;", "type enum a a;", `type text "[";`, `type text "";`, "type ref;", "type ref a;", `type ref "";`, "type flag 1;", "type { }", "type int { }", "type Int;", "type text -1;", "type 1;", "type /a;", "type = int;",
		"default;", "default 7;", "default a;", `default "7"`, `default "7" "8";`, `default "x";`, `default "07";`, `default "\n";`, "default \"\n\";", `default 7";`, "default true;", "default { }", `default "" { }`, `default = "7";`,
		"when;", "when or;", "when a b;", "when /;", "when a =;", "when (a;", "when a);", "when a", "when { }", "when a { }", "when -1;", "when a; when a;", "when A;", "when 1 = 2 = 3;", "when not();", "when count(1);", "when a/;", "when ../;", "when 01;",
		"must;", "must and;", "must a b;", "must /;", "must = a;", "must ((a);", "must a", "must { }", "must a; must b; must c; must d;", "must a, b;", "must a or;", "must 9999999999;",
		"name n;", "kind box;", "prop;", "config true;", "description \"x\";", "box;", "leaf;", ";", "{ }", "a;", "a { }", "1;", `"a";`, "default-value \"7\";", "keys a;", "musts a;", "minimum 1;",
		"group g { }", "augment /a { }", "module a { }", "uses;", "uses a b;", "uses a { uses b; }", "uses a { when a; }", `uses "a";`, "uses 1;", "uses { }", "leaf l;", "many l;", "list l;", "leaf l { }", "many l { }", "list l { }", "box Box;", "box abcdefghijklmnopq;", "box a", "box a b;", "box a { } ;", "box a { };", "box a;;",
	} {
		wantNoProp(t, prop)
	}
}

func TestOrderOfGroupsNodesAndAugments(t *testing.T) {
	forms := map[byte]string{'g': "group g { box a; }", 'h': "group h { }", 'n': "box n;", 'o': "uses o;", 'a': "augment /n { box a; }", 'b': "augment /n/a { }"}
	for _, row := range shortStrings("ghnoab", 5) {
		parts := []string{}
		for i := range len(row) {
			parts = append(parts, forms[row[i]])
		}
		s := "module m { " + strings.Join(parts, " ") + " }"
		groups := strings.TrimLeft(row, "gh")
		isInOrder := strings.Trim(strings.TrimLeft(groups, "no"), "ab") == ""
		areDifferent := strings.Count(row, "g") <= 1 && strings.Count(row, "h") <= 1
		m, ok := impl.ParseModule(s)
		if ok != (isInOrder && areDifferent) {
			t.Fatalf("ParseModule(%q) is %t", s, ok)
		}
		wantAsStatementsSay(t, s)
		if ok && (len(m.Groups) != len(row)-len(groups) || len(m.Body) != strings.Count(row, "n")+strings.Count(row, "o") || len(m.Augments) != strings.Count(row, "a")+strings.Count(row, "b")) {
			t.Fatalf("ParseModule(%q) = %s", s, shownModule(m))
		}
	}
}

func TestSomeModulesThatAreRead(t *testing.T) {
	two := aBox("b")
	two.Present = true
	list := aListOf([]string{"a"}, aUses("g"))
	list.Name, list.Max = "l", 3
	for s, want := range map[string]impl.Module{
		"module m{}": aModule(), "module m { }": aModule(), "\nmodule\nm\n{\n}\n": aModule(),
		"module m{group g{}}": {Name: "m", Groups: []impl.Group{aGroup("g")}}, "module m{augment/a{}}": {Name: "m", Augments: []impl.Augment{anAugment("a")}}, "module m{augment/a/b-1/a{uses g;}}": {Name: "m", Augments: []impl.Augment{anAugment("a/b-1/a", aUses("g"))}},
		"module m{box b{}}": aModule(aBox("b")), "module m{box b;}": aModule(aBox("b")), "module m{box b{present;}}": aModule(two), "module m{box b{box a{box c{}}uses g{}case d{}choice e{}}}": aModule(aBox("b", aBox("a", aBox("c")), aUses("g"), aCase("d"), aChoice("e"))),
		"module m{leaf a{type int;}}": aModule(aLeaf("a")), "module m{many a{type int 3..3|-1;}}": {}, "module m{many a{type int -1|3..3;}}": aModule(impl.Schema{Kind: impl.NdMany, Name: "a", Type: anInt(one(-1), one(3))}),
		"module m{list l{key a;max 3;uses g;}}": aModule(list), `module m{leaf a{type text;default"";}}`: aModule(aGiven("a", aText(""), "")), `module m{leaf a{type int;default"7";}}`: aModule(aGiven("a", anInt(), "7")),
		"module m{leaf a{type int;when b;default \"7\";}}": {}, "module m{list l{max 3;key a;uses g;}}": {}, "module m{list l{uses g;key a;max 3;}}": {},
	} {
		if want.Name == "" {
			wantNoModuleRead(t, s)
		} else {
			wantModuleRead(t, s, want)
		}
		wantAsStatementsSay(t, s)
	}
}

// The words of the language are no names of their own.
func TestWordsAsNamesInModules(t *testing.T) {
	words := append(append(everyProp(), strings.Fields("module group augment box list leaf many choice case uses int text bool enum ref flag or and not count")...), "a")
	for _, s := range words {
		leaf := aLeafOf(s, anEnum(s))
		leaf.Given, leaf.Default, leaf.Must = true, s, []impl.Expr{exNot(exOf(impl.ExEq, exCount(fromHere(aStep(s))), exPath(fromAbove(1, aStep(s)))))}
		list := aListOf([]string{s, "z"}, leaf, aUses(s), aBox(s), aChoice(s), aCase(s))
		list.Name, list.Unique = s, []string{"z", s}
		many := aMany(s)
		wantModule(t, true, impl.Module{Name: s, Groups: []impl.Group{aGroup(s, list)}, Body: []impl.Schema{aBox(s), leaf, many, aUses(s)}, Augments: []impl.Augment{{Names: []string{s, s}, Kids: oneSchema(list)}}})
		for _, other := range words {
			wantModuleRead(t, "module "+s+" { group "+other+" { box "+s+"; uses "+other+"; } box "+other+" { case "+s+" { choice "+other+"; } } augment /"+other+"/"+s+" { } }", impl.Module{
				Name: s, Groups: []impl.Group{aGroup(other, aBox(s), aUses(other))}, Body: oneSchema(aBox(other, aCase(s, aChoice(other)))), Augments: []impl.Augment{anAugment(other + "/" + s)},
			})
			wantModuleRead(t, "module m { list l { key "+s+" x-y; unique x-y "+s+"; } }", aModule(impl.Schema{Kind: impl.NdList, Name: "l", Keys: []string{s, "x-y"}, Unique: []string{"x-y", s}}))
		}
		// Words of another letter, or quoted.
		if slices.Contains(strings.Fields("module group augment box list leaf many choice case uses"), s) {
			for _, other := range []string{strings.ToUpper(s), s + "s", s[1:], s[:len(s)-1], `"` + s + `"`, s + "-", s + "1", "(" + s + ")", s + " " + s, s + "\t"} {
				form := "module m { group g { } box a { uses b; } leaf a { type int; } many a { type int; } list a { key b; } choice a { case b; } case a; augment /a { } }"
				wantNoModuleRead(t, strings.Replace(form, s+" ", other+" ", 1))
			}
		}
	}
}

// wholeModule is written with everything that there is in it.
func wholeModule() string {
	return `module m {
  group g {
    leaf a {
      type int -5..0|7;
      default "7";
      fixed;
      must a or 1 = count(/b[c="d"]/e);
    }
    uses h;
  }
  group h {
  }
  list l {
    key a b-1;
    unique b-1;
    min 1;
    max 22;
    when not(../x) and "\"\\" != y;
    must 1;
    must 1 - (2 - 3) < ..;
    uses g;
    many n {
      type text 0..9 "a*";
      max 3;
    }
  }
  box x {
    present;
    choice y {
      needed;
      case z {
        when a;
        leaf f {
          type flag;
        }
      }
      case w;
    }
  }
  leaf e {
    type enum on off;
    needed;
  }
  augment /l/b {
    leaf r {
      type ref "../e";
    }
  }
  augment /x {
  }
}
`
}

func TestTheWholeModule(t *testing.T) {
	m := mustReadModule(t, wholeModule())
	wantModule(t, true, m)
	if got := impl.FormatModule(m); got != wholeModule() {
		t.Errorf("the module is written %q", got)
	}
	count := 0
	for _, l := range append([][]impl.Schema{m.Groups[0].Kids, m.Groups[1].Kids, m.Augments[0].Kids, m.Augments[1].Kids}, m.Body) {
		count += impl.CountSchema(l)
	}
	leaf := aGiven("a", anInt(span(-5, 0), one(7)), "7")
	leaf.Fixed, leaf.Must = true, []impl.Expr{exOf(impl.ExOr, exName("a"), exOf(impl.ExEq, exNum(1), exCount(fromRoot(aStep("b", aTest("c", "d")), aStep("e")))))}
	if count != 12 || m.Name != "m" || !equalSchemas(m.Groups[0].Kids, []impl.Schema{leaf, aUses("h")}) || !slices.Equal(m.Body[0].Keys, []string{"a", "b-1"}) || m.Body[0].Max != 22 || !slices.Equal(m.Augments[0].Names, []string{"l", "b"}) {
		t.Errorf("the module is read as %s", shownModule(m))
	}
}

func TestBlanksAndRemarksInModules(t *testing.T) {
	m := mustReadModule(t, wholeModule())
	parts := tokenTexts(wholeModule())
	for _, between := range []string{" ", "  ", "\n", " \n ", "#\n", " # } module x { \" ;\n", "#\n#}\n\n"} {
		spread := strings.Join(parts, between)
		for _, form := range []string{spread, between + spread + between, spread + "#", "\n" + spread + " # box a;", "#{\n" + spread + "# }"} {
			wantModuleRead(t, form, m)
		}
	}
	// Just where there must be some.
	dense := strings.NewReplacer("{ ", "{", " {", "{", "} ", "}", " }", "}", "; ", ";", " ;", ";", " /", "/").Replace(strings.Join(parts, " "))
	wantModuleRead(t, dense, m)
	for at := range parts {
		for _, other := range []string{"\t", "\r\n", "\u00a0", "\x00", "/* */", "~"} {
			wantNoModuleRead(t, strings.Join(parts[:at], " ")+other+strings.Join(parts[at:], " "))
		}
	}
	for _, s := range []string{"mod ule m { }", "module m { bo x a; }", "modulem { }", "module m { boxa; }", "module m { box a- ; }", "module m { group g-{ } }"} {
		wantNoModuleRead(t, s)
	}
}

func TestEveryBeginningOfAModule(t *testing.T) {
	for _, s := range []string{wholeModule(), "module m{}", "module m { group g { } box b { present; } augment /b { uses g; } }"} {
		last := strings.LastIndexByte(s, '}')
		for size := range last + 1 {
			wantNoModuleRead(t, s[:size])
			wantNoModuleRead(t, s[:size]+"\n")
			// Only here and there it is enough to end all that is open.
			for count := range 6 {
				wantAsStatementsSay(t, s[:size]+strings.Repeat("}", count))
				wantAsStatementsSay(t, s[:size]+";"+strings.Repeat("}", count))
			}
		}
		m := mustReadModule(t, s)
		wantModuleRead(t, s[:last+1], m)
		for size := 1; size < len(s); size++ {
			wantNoModuleRead(t, s[size:])
		}
		for _, behind := range []string{"}", ";", "{", "{ }", "{ } }", "a", "1", `""`, "box a;", "module m { }", s, "/", "augment /a { }", "\x00", "\t", `"`, "!"} {
			wantNoModuleRead(t, s+behind)
			wantNoModuleRead(t, s+" # \n"+behind)
			wantNoModuleRead(t, behind+s)
		}
	}
	for _, s := range []string{"", " ", "\n", "#", "# module m { }", "module", "module m", "module m {", "module m }", "module { }", "module m;", "module m { } }", "module m { { } }", "module m { ; }", "module 1 { }", `module "m" { }`, "module m m { }", "m { }", "{ }", "Module m { }", "module M { }", "module m [ ]", "module m ( )", "box a;", "box a { }", "group m { }", "a", "}", "{", ";", `"`, "\xff"} {
		wantNoModuleRead(t, s)
	}
}

func TestHeadsOfBlocks(t *testing.T) {
	for _, s := range []string{
		"group { }", "group g;", "group g", "group g { } ;", "group g { };", "group g h { }", `group "g" { }`, "group 1 { }", "group /g { }", "group g { group h { } }", "group g { augment /a { } }", "group g { present; }", "group g { when a; box b; }", "group g { { } }", "group g { ; }", "group g { } }", "group g {", "group g { module a { } }", "group G { }", "group g { } group g { }",
		"augment { }", "augment / { }", "augment a { }", "augment a/b { }", "augment /a/ { }", "augment /a//b { }", "augment //a { }", "augment /a b { }", "augment /a;", "augment /a", "augment /a { };", "augment ../a { }", "augment . { }", "augment /.. { }", "augment /a/.. { }", `augment /a[b="c"] { }`, `augment "/a" { }`, "augment /1 { }", "augment /A { }", "augment /a { augment /b { } }", "augment /a { group g { } }", "augment /a { present; }", "augment /a { } box b;", "augment /a { } group g { }", "augment /a, /b { }", "augment /a { ; }", "augment /abcdefghijklmnopq { }", "augment /a/a/a/a/a/a/a/a/a/a/a { }", "augment /a | /b { }",
		"present;", "when a;", "type int;", "needed;", "key a;", "min 1;",
	} {
		wantNoModuleRead(t, "module m { "+s+" }")
		wantNoModuleRead(t, "module m { box x; "+s+" }")
		wantAsStatementsSay(t, "module m { box x; augment /x { } "+s+" }")
	}
}

func TestBracesAndSemicolonsInModules(t *testing.T) {
	parts := tokenTexts(wholeModule())
	read := 0
	for at, part := range parts {
		others := []string{"{", "}", ";", "{ }", "; }", "} {", "} }", ""}
		for _, other := range others {
			inserted := strings.Join(slices.Insert(slices.Clone(parts), at, other), " ")
			replaced := strings.Join(slices.Concat(parts[:at], []string{other}, parts[at+1:]), " ")
			if other != "" {
				wantNoModuleRead(t, inserted)
			}
			if wantAsStatementsSay(t, replaced) {
				read++
			}
			if (part == "{" || part == "}") && other == "" {
				wantNoModuleRead(t, replaced)
			}
		}
	}
	if read < 4 {
		t.Errorf("only %d of the texts are read", read)
	}
}

func TestModulesWithOneTokenChanged(t *testing.T) {
	others := append(append(everyProp(), strings.Fields("module group augment box list leaf many choice case uses int text { } ; / .. - | 0 1 07 \"\" \"7\" or not ( ) = a z-9 A")...), "abcdefghijklmnopq")
	parts := tokenTexts(wholeModule())
	read := 0
	for at := range parts {
		rows := [][]string{slices.Delete(slices.Clone(parts), at, at+1), slices.Concat(parts[:at], parts[at:at+1], parts[at:])}
		for _, other := range others {
			rows = append(rows, slices.Insert(slices.Clone(parts), at, other), slices.Concat(parts[:at], []string{other}, parts[at+1:]))
		}
		for to := range parts {
			row := slices.Clone(parts)
			row[at], row[to] = row[to], row[at]
			rows = append(rows, row)
		}
		for _, row := range rows {
			if wantAsStatementsSay(t, strings.Join(row, " ")) {
				read++
			}
		}
	}
	if read < 500 {
		t.Errorf("only %d of the texts are read", read)
	}
}

func TestModulesWithOneByteChanged(t *testing.T) {
	read := 0
	for i, s := range []string{"module m { group g { } list l { key a; min 1; must a; } augment /l { uses g; } }", wholeModule()} {
		bytes := "aAz-10 \n#{};/\"\\|.=(),_\x00\xff\t"
		if i == 0 {
			bytes = everyByte()
		}
		for at := range len(s) {
			forms := []string{s[:at] + s[at+1:]}
			for j := range len(bytes) {
				forms = append(forms, s[:at]+bytes[j:j+1]+s[at+1:], s[:at]+bytes[j:j+1]+s[at:])
			}
			for _, form := range forms {
				if wantAsStatementsSay(t, form) {
					read++
				}
			}
		}
	}
	if read < 4000 {
		t.Errorf("only %d of the texts are read", read)
	}
}

// mixedModule is mostly right; it is the same in each run.
func mixedModule(seed uint64) impl.Module {
	b := &builder{source: rand.New(rand.NewPCG(seed, 10)), room: 40}
	nodes := func() []impl.Schema {
		l := append(b.nodes(b.source.IntN(5)), b.nodes(b.source.IntN(3))...)
		for _, n := range everyNode(l) {
			if isRoomy := n.Kind == impl.NdBox || n.Kind >= impl.NdChoice; isRoomy && b.oneIn(4) {
				n.Kids = append(n.Kids, aUses(string(rune('g'+b.source.IntN(8)))))
			}
			if n.Given && !b.oneIn(9) {
				n.When, n.Type = nil, aText("")
			}
			if n.Max > 0 && !b.oneIn(9) {
				n.Min, n.Max = b.source.IntN(2), 1+b.source.IntN(impl.MaxNumber)
			}
		}
		if b.oneIn(3) {
			l = append(l, aUses("g"))
		}
		return l
	}
	m := impl.Module{Name: string(rune('a' + b.source.IntN(26))), Body: nodes()}
	for i := range b.source.IntN(4) {
		m.Groups = append(m.Groups, aGroup(string(rune('g'+i)), nodes()...))
	}
	for range b.source.IntN(4) {
		m.Augments = append(m.Augments, impl.Augment{Names: names(1 + b.source.IntN(impl.MaxSteps)), Kids: nodes()})
	}
	for range b.source.IntN(3) {
		b.change(m.Body)
	}
	return m
}

func TestMixedModulesAreReadFromWhatIsWritten(t *testing.T) {
	valid, wrong := 0, 0
	rules := mixedExprs(1000)
	for seed := range uint64(3000) {
		m := mixedModule(seed)
		for i, n := range everyNode(m.Body) {
			if e := rules[(int(seed)+i)%len(rules)]; len(n.Must) > 0 && len(tokenTexts(impl.FormatExpr(e))) < 200 {
				n.Must[0] = e
			}
		}
		want := isModuleByRules(m)
		wantModule(t, want, m)
		if want {
			valid++
		} else {
			wrong++
		}
		if t.Failed() {
			return
		}
	}
	if valid < 800 || wrong < 800 {
		t.Errorf("%d modules are valid, %d are not", valid, wrong)
	}
}

func TestMixedModulesWithOneTokenChanged(t *testing.T) {
	others := append(everyProp(), strings.Fields("box leaf case uses { } ; / 1 \"7\" a - int")...)
	read := 0
	for seed := range uint64(1500) {
		source := rand.New(rand.NewPCG(seed, 11))
		parts := tokenTexts(impl.FormatModule(mixedModule(seed)))
		if len(parts) == 0 {
			continue
		}
		for range 20 {
			row := slices.Clone(parts)
			at, to := source.IntN(len(parts)), source.IntN(len(parts))
			switch source.IntN(4) {
			case 0:
				row = slices.Delete(row, at, at+1)
			case 1:
				row = slices.Insert(row, at, others[source.IntN(len(others))])
			case 2:
				row[at] = others[source.IntN(len(others))]
			case 3:
				row[at] = row[to]
			}
			if wantAsStatementsSay(t, strings.Join(row, " ")) {
				read++
			}
		}
		if t.Failed() {
			return
		}
	}
	if read < 500 {
		t.Errorf("only %d of the texts are read", read)
	}
}

func TestLongModulesEnd(t *testing.T) {
	inTime(t, "modules with nodes that lie within themselves", func() {
		for i, l := range endlessSchemas() {
			for _, m := range []impl.Module{aModule(l...), {Name: "m", Groups: []impl.Group{aGroup("g", l...)}}, {Name: "m", Augments: []impl.Augment{anAugment("a"), anAugment("a", l...)}}} {
				if impl.IsModule(m) || impl.FormatModule(m) != "" {
					t.Errorf("a module of the schema %d, which has no end, is valid", i)
				}
			}
		}
	})
	inTime(t, "deep and wide modules", func() {
		for kind := impl.NdBox; kind <= impl.NdUses; kind++ {
			if m := aModule(schemaWithin(kind, 300000)); impl.IsModule(m) || impl.FormatModule(m) != "" {
				t.Errorf("a deep module of the kind %d is valid", kind)
			}
		}
		l := oneSchema(aLeaf("a"))
		for range 200 {
			l = []impl.Schema{aBox("a", l...), aBox("b", l...)}
		}
		long := strings.Repeat("a", 1000000)
		list, rules := aListOf(slices.Repeat([]string{"key"}, 200000)), aBox("a")
		rules.Must = slices.Repeat([]impl.Expr{exNum(1)}, 200000)
		for i, m := range []impl.Module{
			aModule(l...), aModule(slices.Repeat(oneSchema(aUses("a")), 200000)...), aModule(list), aModule(rules), aModule(aBox(long)), {Name: long},
			{Name: "m", Groups: slices.Repeat([]impl.Group{aGroup("g", l...)}, 200000)}, {Name: "m", Augments: slices.Repeat([]impl.Augment{anAugment("a", l...)}, 200000)}, {Name: "m", Augments: []impl.Augment{{Names: slices.Repeat([]string{"a"}, 200000)}}},
			{Name: "m", Groups: slices.Repeat([]impl.Group{aGroup(long)}, 6)},
		} {
			if impl.IsModule(m) || impl.FormatModule(m) != "" {
				t.Errorf("the module %d, which has too much, is valid", i)
			}
		}
	})
	inTime(t, "long texts", func() {
		// No text may lead to so many calls within calls that they break off.
		defer debug.SetMaxStack(debug.SetMaxStack(1 << 25))
		const count = 300000
		for _, form := range [][]string{
			{"module m {", "box a {", "}", "}"}, {"module m { group g {", "choice a {", "}", "} }"}, {"module m { augment /a {", "case a {", "}", "} }"}, {"module m {", "box a {", "", ""}, {"", "module m {", "}", ""}, {"module m {", "{", "}", "}"}, {"module m {", "group g {", "}", "}"},
			{"module m {", "box a;", "", "}"}, {"module m {", "group g { }", "", "}"}, {"module m {", "augment /a { }", "", "}"}, {"module m { box a {", "must 1;", "", "} }"}, {"module m { box a {", "when 1;", "", "} }"}, {"module m { box a {", "present;", "", "} }"},
			{"module m { augment ", "/a", "", "{ } }"}, {"module m { list l { key ", "a ", "", "; } }"}, {"module m { leaf a { type enum ", "a ", "", "; } }"}, {"module m { leaf a { type int ", "1|", "", "9; } }"}, {`module m { leaf a { type text; default "`, `\"`, "", `"; } }`},
			{"module m { box a { when ", "(", ")", "; } }"}, {"module m { box a { must ", "not(", ")", "; } }"}, {"module m { box a { must ", "1 + ", "", "1; } }"}, {"module m { box a { must ", "a/", "", "a; } }"}, {"module ", "a", "", "{ }"}, {"module m { leaf a { type int; default ", `"" `, "", "; } }"},
			{"", "}", "", ""}, {"", ";", "", ""}, {"", `"`, "", ""}, {"", "module ", "", ""},
		} {
			wantNoModuleRead(t, form[0]+strings.Repeat(form[1], count)+strings.Repeat(form[2], count)+form[3])
		}
		for _, blank := range []string{" ", "\n", "#\n", "# module\n"} {
			wantModuleRead(t, "module"+strings.Repeat(" "+blank, count)+"m { }"+strings.Repeat(blank, count), aModule())
		}
	})
}
