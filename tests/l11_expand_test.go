package tests

import (
	"fmt"
	"maps"
	"math/rand/v2"
	"reflect"
	"runtime/debug"
	"slices"
	"strings"
	"testing"

	"loop.example/g03013/impl"
)

func withGroups(groups ...impl.Group) impl.Module {
	return impl.Module{Name: "m", Groups: groups}
}

// usesOf are uses of groups whose names have one letter.
func usesOf(names string) []impl.Schema {
	l := []impl.Schema{}
	for _, s := range strings.Split(names, "") {
		l = append(l, aUses(s))
	}
	return l
}

// beingReplaced is the kind of a node that is no longer a uses and not yet the
// kids of its group; no other node in a test has it.
const beingReplaced = 1 << 40

// expandedByRules changes the nodes one step after the other, and begins at the
// top for each: a uses gets the kids of its group, and when nothing is left to
// replace below it, these stand in its place.
func expandedByRules(m impl.Module, l []impl.Schema) ([]impl.Schema, int) {
	begun := 0
	for {
		next, isStep, code := stepByRules(m, l, nil, &begun)
		if code != impl.ExFine {
			return nil, code
		}
		if !isStep {
			return l, impl.ExFine
		}
		l = next
	}
}

func stepByRules(m impl.Module, l []impl.Schema, above []string, begun *int) ([]impl.Schema, bool, int) {
	for i, n := range l {
		around := slices.Clone(above)
		switch n.Kind {
		case impl.NdUses:
			place := slices.IndexFunc(m.Groups, func(g impl.Group) bool { return g.Name == n.Name })
			if place < 0 {
				return nil, false, impl.ExGroup
			}
			if slices.Contains(above, n.Name) {
				return nil, false, impl.ExCycle
			}
			if *begun >= 60 {
				return nil, false, impl.ExSchema
			}
			*begun++
			begins := impl.Schema{Kind: beingReplaced, Name: n.Name, Kids: m.Groups[place].Kids}
			return slices.Concat(l[:i], oneSchema(begins), l[i+1:]), true, impl.ExFine
		case beingReplaced:
			around = append(around, n.Name)
		}
		kids, isStep, code := stepByRules(m, n.Kids, around, begun)
		if isStep || code != impl.ExFine {
			n.Kids = kids
			return slices.Concat(l[:i], oneSchema(n), l[i+1:]), isStep, code
		}
		if n.Kind == beingReplaced {
			if len(everyNode(l[:i]))+len(everyNode(n.Kids)) > 60 {
				return nil, false, impl.ExSchema
			}
			return slices.Concat(l[:i], n.Kids, l[i+1:]), true, impl.ExFine
		}
	}
	return nil, false, impl.ExFine
}

func moduleExpandedByRules(m impl.Module) ([]impl.Schema, int) {
	if !isModuleByRules(m) {
		return nil, impl.ExModule
	}
	body, code := expandedByRules(m, m.Body)
	if code != impl.ExFine {
		return nil, code
	}
	l := schemasWithSpare(body)
	for _, a := range m.Augments {
		kids, code := expandedByRules(m, a.Kids)
		if code != impl.ExFine {
			return nil, code
		}
		if !addedByRules(l, a.Names, kids) {
			return nil, impl.ExTarget
		}
	}
	if !isSchemaByRules(l) {
		return nil, impl.ExSchema
	}
	return l, impl.ExFine
}

// addedByRules reports whether the names lead to a box or a list, to which it
// adds the kids.
func addedByRules(l []impl.Schema, names []string, kids []impl.Schema) bool {
	for _, n := range dataKidsToChange(l) {
		if n.Name != names[0] {
			continue
		}
		if len(names) > 1 {
			return addedByRules(n.Kids, names[1:], kids)
		}
		n.Kids = slices.Concat(n.Kids, schemasWithSpare(kids))
		return n.Kind == impl.NdBox || n.Kind == impl.NdList
	}
	return false
}

func dataKidsToChange(l []impl.Schema) []*impl.Schema {
	all := []*impl.Schema{}
	for i := range l {
		if l[i].Kind >= impl.NdBox && l[i].Kind <= impl.NdMany {
			all = append(all, &l[i])
		} else if l[i].Kind != impl.NdUses {
			all = append(all, dataKidsToChange(l[i].Kids)...)
		}
	}
	return all
}

func usedByRules(l []impl.Schema) []string {
	names := []string{}
	for _, n := range everyNode(l) {
		if n.Kind == impl.NdUses {
			names = append(names, n.Name)
		}
	}
	return names
}

// wantExpansion also holds the memory of two results against the arguments, and
// what is promised of what is expanded.
func wantExpansion(t *testing.T, m impl.Module, l []impl.Schema, want []impl.Schema, wantCode int) {
	t.Helper()
	module, nodes := moduleWithSpare(m), schemasWithSpare(l)
	got, code := impl.ExpandNodes(module, nodes)
	again, _ := impl.ExpandNodes(module, nodes)
	if code != wantCode || !equalSchemas(got, want) {
		t.Errorf("ExpandNodes(%s, %s) = %s, %d, want %s, %d", shownModule(m), shownSchemas(l), shownSchemas(got), code, shownSchemas(want), wantCode)
	}
	if byRules, code := expandedByRules(m, l); code != wantCode || !equalSchemas(byRules, want) {
		t.Errorf("by the rules, ExpandNodes(%s, %s) would be %s, %d", shownModule(m), shownSchemas(l), shownSchemas(byRules), code)
	}
	wantUntouchedModule(t, "ExpandNodes", module, m)
	wantUntouchedSchemas(t, "ExpandNodes", nodes, l)
	wantSeparate(t, "ExpandNodes", module, nodes, got, again)
	wantNothingToExpand(t, m, got)
	wantUsed(t, m, l, usedByRules(l)...)
}

// wantPartsExpanded is for the nodes of a module in the memory in which they are:
// a group may then lie below a uses of itself.
func wantPartsExpanded(t *testing.T, m impl.Module) {
	t.Helper()
	for i, l := range partsByRules(m) {
		got, code := impl.ExpandNodes(m, l)
		if byRules, want := expandedByRules(m, l); code != want || !equalSchemas(got, byRules) {
			t.Errorf("ExpandNodes(%s, the part %d) = %s, %d, want %s, %d", shownModule(m), i, shownSchemas(got), code, shownSchemas(byRules), want)
		}
	}
}

func partsByRules(m impl.Module) [][]impl.Schema {
	parts := [][]impl.Schema{m.Body}
	for _, g := range m.Groups {
		parts = append(parts, g.Kids)
	}
	for _, a := range m.Augments {
		parts = append(parts, a.Kids)
	}
	return parts
}

// wantSeparate is for things that share no memory.
func wantSeparate(t *testing.T, name string, things ...any) {
	t.Helper()
	places := map[uintptr]bool{}
	for _, thing := range things {
		addMemory(t, name, reflect.ValueOf(thing), places)
	}
}

// wantNothingToExpand is for nodes that are expanded.
func wantNothingToExpand(t *testing.T, m impl.Module, l []impl.Schema) {
	t.Helper()
	if used := impl.UsedGroups(m, l); len(used) > 0 {
		t.Errorf("%q is still used in %s", used, shownSchemas(l))
	}
	for _, m := range []impl.Module{m, {}} {
		if again, code := impl.ExpandNodes(m, l); code != impl.ExFine || !equalSchemas(again, l) {
			t.Errorf("%s expands to %s, %d", shownSchemas(l), shownSchemas(again), code)
		}
	}
}

func wantUsed(t *testing.T, m impl.Module, l []impl.Schema, want ...string) {
	t.Helper()
	module, nodes := moduleWithSpare(m), schemasWithSpare(l)
	got := impl.UsedGroups(module, nodes)
	if !slices.Equal(got, want) {
		t.Errorf("UsedGroups(%s) = %.500q, want %.500q", shownSchemas(l), got, want)
	}
	wantUntouchedModule(t, "UsedGroups", module, m)
	wantUntouchedSchemas(t, "UsedGroups", nodes, l)
	wantSeparate(t, "UsedGroups", module, nodes, got, impl.UsedGroups(module, nodes))
}

func wantExpanded(t *testing.T, m impl.Module, l []impl.Schema, want ...impl.Schema) {
	t.Helper()
	wantExpansion(t, m, l, want, impl.ExFine)
}

func wantNotExpanded(t *testing.T, code int, m impl.Module, l ...impl.Schema) {
	t.Helper()
	wantExpansion(t, m, l, nil, code)
}

// wantModuleExpansion is like wantExpansion, for ExpandModule.
func wantModuleExpansion(t *testing.T, m impl.Module, want []impl.Schema, wantCode int) {
	t.Helper()
	module := moduleWithSpare(m)
	got, code := impl.ExpandModule(module)
	again, _ := impl.ExpandModule(module)
	if code != wantCode || !equalSchemas(got, want) {
		t.Errorf("ExpandModule(%s) = %s, %d, want %s, %d", shownModule(m), shownSchemas(got), code, shownSchemas(want), wantCode)
	}
	if byRules, code := moduleExpandedByRules(m); code != wantCode || !equalSchemas(byRules, want) {
		t.Errorf("by the rules, ExpandModule(%s) would be %s, %d", shownModule(m), shownSchemas(byRules), code)
	}
	wantUntouchedModule(t, "ExpandModule", module, m)
	wantSeparate(t, "ExpandModule", module, got, again)
	wantNothingToExpand(t, m, got)
	if !impl.IsSchema(got) {
		t.Errorf("ExpandModule(%s) = %s, which is not valid", shownModule(m), shownSchemas(got))
	}
}

// wantSchemaOf is for a module and the nodes of its schema, as they are written.
func wantSchemaOf(t *testing.T, module string, want string) {
	t.Helper()
	wantModuleExpansion(t, mustReadModule(t, "module m { "+module+" }"), mustReadModule(t, "module w { "+want+" }").Body, impl.ExFine)
}

func wantNoSchemaOf(t *testing.T, code int, module string) {
	t.Helper()
	wantModuleExpansion(t, mustReadModule(t, "module m { "+module+" }"), nil, code)
}

// usesHomes are places for nodes, as they are written.
func usesHomes() []string {
	return []string{
		"%s", "box up { %s }", "list up { key k; leaf k { type int; } %s }", "choice up { %s }", "choice up { case low { %s } }", "case up { when 1; %s }",
		"leaf first { type int; } %s many last { type text; }", "box up { list mid { key k; choice low { case in { %s } case out; } leaf k { type int; } } } box behind { box empty; }",
	}
}

// wantNodesOf is for groups, nodes and what these expand to, at every place.
func wantNodesOf(t *testing.T, groups string, nodes string, want string) {
	t.Helper()
	for _, home := range usesHomes() {
		m := mustReadModule(t, "module m { "+groups+fmt.Sprintf(home, nodes)+" }")
		wantExpanded(t, m, m.Body, mustReadModule(t, "module w { "+fmt.Sprintf(home, want)+" }").Body...)
	}
}

func wantNoNodesOf(t *testing.T, code int, groups string, nodes string) {
	t.Helper()
	for _, home := range usesHomes() {
		m := mustReadModule(t, "module m { "+groups+fmt.Sprintf(home, nodes)+" }")
		wantNotExpanded(t, code, m, m.Body...)
	}
}

func TestExpandConstants(t *testing.T) {
	for i, code := range []int{impl.ExFine, impl.ExModule, impl.ExGroup, impl.ExCycle, impl.ExTarget, impl.ExSchema} {
		if code != i {
			t.Errorf("the code at the place %d is %d", i, code)
		}
	}
}

func TestNodesWithoutUsesAreCopied(t *testing.T) {
	wrong := withGroups(aGroup("g", aUses("g")), aGroup("h", aUses("none")), aGroup("n", leaves(70)...))
	for _, m := range []impl.Module{{}, wrong, {Name: "M", Groups: []impl.Group{}, Body: usesOf("gh"), Augments: []impl.Augment{{}, anAugment("a", aUses("g"))}}} {
		wantExpanded(t, m, nil)
		wantExpanded(t, m, []impl.Schema{})
		for _, l := range [][]impl.Schema{oneOfEveryKind()[:impl.NdUses], fullNodes()[:7], {aBox("n", leaves(5)...), aLeaf("n"), aLeaf("n")}} {
			wantExpanded(t, m, l, l...)
			for _, n := range l {
				wantExpanded(t, m, oneSchema(n), n)
				for _, home := range homes(n) {
					wantExpanded(t, m, home, home...)
				}
			}
		}
		for _, kind := range append(kindsThatAreNone(), impl.NdBox, impl.NdList, impl.NdLeaf, impl.NdMany, impl.NdChoice, impl.NdCase) {
			n := fullSchema(3)
			n.Kind, n.Kids[1].Kind, n.Kids[2].Kids[0].Kind, n.Name = kind, kind, kind, "g"
			wantExpanded(t, m, oneSchema(n), n)
			wantExpanded(t, m, []impl.Schema{n, aLeaf("a"), n}, n, aLeaf("a"), n)
		}
	}
}

// Nodes may share memory within themselves and with groups; what comes back
// does not.
func TestExpandedNodesOfSharedMemory(t *testing.T) {
	full := fullSchema(2)
	shared := []impl.Schema{aBox("a", full.Kids...), aLeaf("b"), aBox("c", full.Kids...), aUses("g"), aBox("d", usesOf("gh")...)}
	shared[1].Type, shared[1].When, shared[1].Must, shared[0].When = full.Type, full.When, full.When, full.When
	shared[2].Keys, shared[2].Unique = full.Keys, full.Keys
	m := withGroups(aGroup("g", full.Kids...), aGroup("h", shared[:2]...))
	want := []impl.Schema{shared[0], shared[1], shared[2], full.Kids[0], full.Kids[1], aBox("d", slices.Concat(full.Kids, shared[:2])...)}
	got, code := impl.ExpandNodes(m, shared)
	if code != impl.ExFine || !equalSchemas(got, want) {
		t.Errorf("ExpandNodes(%s, %s) = %s, %d", shownModule(m), shownSchemas(shared), shownSchemas(got), code)
	}
	places := map[uintptr]bool{}
	for _, place := range memoryOf(reflect.ValueOf(shared)) {
		places[place] = true
	}
	addMemory(t, "ExpandNodes of shared memory", reflect.ValueOf(got), places)
}

// memoryOf are the places of the elements of all slices in v, at every depth;
// places may come more than once.
func memoryOf(v reflect.Value) []uintptr {
	places := []uintptr{}
	switch v.Kind() {
	case reflect.Struct:
		for i := range v.NumField() {
			places = append(places, memoryOf(v.Field(i))...)
		}
	case reflect.Slice:
		for i := range v.Len() {
			places = append(places, v.Index(i).Addr().Pointer())
			places = append(places, memoryOf(v.Index(i))...)
		}
	}
	return places
}

func TestUsesAreReplacedAtEveryPlace(t *testing.T) {
	const g = "group g { leaf x { type bool; } box y { present; many z { type int 1..9; } } } "
	const kids = "leaf x { type bool; } box y { present; many z { type int 1..9; } }"
	wantNodesOf(t, g, "uses g;", kids)
	wantNodesOf(t, g, "uses g; uses g;", kids+kids)
	wantNodesOf(t, g, "uses g; leaf a { type int; } uses g; uses g; box b;", kids+"leaf a { type int; }"+kids+kids+"box b;")
	wantNodesOf(t, g, "box a { uses g; } uses g; box b { uses g; }", "box a { "+kids+" }"+kids+"box b { "+kids+" }")
	wantNodesOf(t, g, "box a { box b { uses g; box c; uses g; } uses g; }", "box a { box b { "+kids+"box c;"+kids+" }"+kids+" }")
	wantNodesOf(t, g, "choice a { case b { uses g; } case c { uses g; } }", "choice a { case b { "+kids+" } case c { "+kids+" } }")
	wantNodesOf(t, g, "choice a { uses g; case c; }", "choice a { "+kids+" case c; }")
	wantNodesOf(t, g, "list a { key k; unique k; min 2; when 1; must 2; uses g; }", "list a { key k; unique k; min 2; when 1; must 2; "+kids+" }")
	wantNodesOf(t, g, "box g { leaf g { type int; } uses g; }", "box g { leaf g { type int; }"+kids+" }")
}

func TestSeveralGroups(t *testing.T) {
	const groups = "group g { leaf a { type int; } } group h { box b { leaf c { type flag; } } many d { type int; } } group i { choice e { case f { leaf g { type text; default \"x\"; } } } } group none { } "
	wantNodesOf(t, groups, "uses i; uses g; uses h;", "choice e { case f { leaf g { type text; default \"x\"; } } } leaf a { type int; } box b { leaf c { type flag; } } many d { type int; }")
	wantNodesOf(t, groups, "uses h; box a { uses g; } uses g;", "box b { leaf c { type flag; } } many d { type int; } box a { leaf a { type int; } } leaf a { type int; }")
	wantNodesOf(t, groups, "uses none;", "")
	wantNodesOf(t, groups, "uses none; uses none; box a { uses none; }", "box a;")
	wantNodesOf(t, groups, "uses none; uses g; uses none; box b { uses none; uses g; } uses none;", "leaf a { type int; } box b { leaf a { type int; } }")
}

func TestGroupsThatUseGroups(t *testing.T) {
	const groups = "group a { box b { uses c; } uses e; leaf f { type int; } } group c { leaf d { type int; } uses e; } group e { many n { type int; } } group z { uses z-1; } group z-1 { uses z-2; } group z-2 { uses a; } "
	const inner = "leaf d { type int; } many n { type int; }"
	const outer = "box b { " + inner + " } many n { type int; } leaf f { type int; }"
	wantNodesOf(t, groups, "uses c;", inner)
	wantNodesOf(t, groups, "uses a;", outer)
	wantNodesOf(t, groups, "uses z;", outer)
	wantNodesOf(t, groups, "uses c; uses a; box b { uses a; } uses c;", inner+outer+"box b { "+outer+" }"+inner)
	// The order of the groups does not matter.
	wantNodesOf(t, "group one { box a { uses two; } } group two { box b { uses three; } } group three { leaf c { type int; } } ", "uses one;", "box a { box b { leaf c { type int; } } }")
	wantNodesOf(t, "group three { leaf c { type int; } } group two { box b { uses three; } } group one { box a { uses two; } } ", "uses one;", "box a { box b { leaf c { type int; } } }")
	wantNodesOf(t, "group g { } group h { uses g; uses g; } group i { uses h; uses g; uses h; } ", "uses i; uses h; leaf a { type int; }", "leaf a { type int; }")
}

func TestGroupsThatAreNotThere(t *testing.T) {
	for _, groups := range []string{"", "group g { box g; } ", "group g { } group h { uses g; } ", "group nones { } group non { } group m { } "} {
		for _, nodes := range []string{"uses none;", "uses none; uses none;", "box none; uses none;", "box none { uses none; }", "leaf a { type int; } box a { box b; box c { uses none; } }", "choice none { case none { uses none; } }"} {
			wantNoNodesOf(t, impl.ExGroup, groups, nodes)
		}
	}
	wantNoNodesOf(t, impl.ExGroup, "group g { uses none; } ", "uses g;")
	wantNoNodesOf(t, impl.ExGroup, "group g { box a; box b { uses none; } } ", "box a; uses g;")
	wantNoNodesOf(t, impl.ExGroup, "group g { box a; uses h; } group h { box c; uses i; } group i { uses none; } ", "uses h;")
	// One that is not used may use what is not there.
	wantNodesOf(t, "group g { uses none; } group h { box a; } ", "uses h;", "box a;")
	wantNotExpanded(t, impl.ExGroup, impl.Module{}, aUses("g"))
	wantNotExpanded(t, impl.ExGroup, impl.Module{}, aUses(""))
	wantNotExpanded(t, impl.ExGroup, withGroups(aGroup("g")), aUses("G"))
	wantNotExpanded(t, impl.ExGroup, withGroups(aGroup("g")), aUses("g "))
	// The nodes of a module are no groups, and neither is the module.
	m := mustReadModule(t, "module m { group g { box x; } box a { box b; } augment /a { box c; } }")
	for _, name := range strings.Split("mabcx", "") {
		wantNotExpanded(t, impl.ExGroup, m, aUses(name))
	}
}

func TestTheFirstGroupOfAName(t *testing.T) {
	first, second := aBox("first", aLeaf("x")), aMany("second")
	wantExpanded(t, withGroups(aGroup("g", first), aGroup("g", second)), usesOf("g"), first)
	wantExpanded(t, withGroups(aGroup("g", second), aGroup("g", first)), usesOf("gg"), second, second)
	wantExpanded(t, withGroups(aGroup("g"), aGroup("g", first)), usesOf("g"))
	wantExpanded(t, withGroups(aGroup("h", first), aGroup("g", second), aGroup("h", second), aGroup("g", first), aGroup("h")), usesOf("hgh"), first, second, first)
	// It counts, whether it or the other one is wrong.
	wantExpanded(t, withGroups(aGroup("g", first), aGroup("g", aUses("none"))), usesOf("g"), first)
	wantExpanded(t, withGroups(aGroup("g", first), aGroup("g", aUses("g"))), usesOf("g"), first)
	wantExpanded(t, withGroups(aGroup("g", first), aGroup("g", leaves(61)...)), usesOf("g"), first)
	wantNotExpanded(t, impl.ExGroup, withGroups(aGroup("g", aUses("none")), aGroup("g", first)), aUses("g"))
	wantNotExpanded(t, impl.ExSchema, withGroups(aGroup("g", leaves(61)...), aGroup("g", first)), aUses("g"))
	// The second one of its name is neither used by the first one nor open with it.
	wantNotExpanded(t, impl.ExCycle, withGroups(aGroup("g", aUses("g")), aGroup("g", first)), aUses("g"))
	wantNotExpanded(t, impl.ExCycle, withGroups(aGroup("g", first, aUses("h")), aGroup("h", aUses("g")), aGroup("g", second), aGroup("h", second)), aUses("g"))
	wantExpanded(t, withGroups(aGroup("g", first, aUses("h")), aGroup("g", second), aGroup("h", second), aGroup("h", aUses("g"))), usesOf("gh"), first, second, second)
}

func TestGroupsThatUseEachOther(t *testing.T) {
	// Rings of one, two and three groups, with other nodes around the uses.
	for _, ring := range []string{"aa", "aba", "abca", "abcdefa"} {
		for _, home := range usesHomes() {
			groups := ""
			for i := range len(ring) - 1 {
				groups += fmt.Sprintf("group %c { %s } ", ring[i], fmt.Sprintf(home, "uses "+ring[i+1:i+2]+";"))
			}
			for i := range len(ring) - 1 {
				m := mustReadModule(t, "module m { "+groups+" }")
				wantNotExpanded(t, impl.ExCycle, m, aUses(ring[i:i+1]))
				wantPartsExpanded(t, m)
				wantNotExpanded(t, impl.ExCycle, m, aBox("top", aLeaf("a"), aUses(ring[i:i+1])))
				wantNotExpanded(t, impl.ExCycle, withGroups(slices.Concat(m.Groups, []impl.Group{aGroup("z", aLeaf("a"), aBox("b", aUses(ring[i:i+1])))})...), aUses("z"))
			}
		}
	}
	const ring = "group g { uses h; } group h { box a { uses i; } } group i { uses h; } group z { box b; } "
	wantNoNodesOf(t, impl.ExCycle, ring, "uses g;")
	wantNoNodesOf(t, impl.ExCycle, ring, "uses z; uses h;")
	wantNoNodesOf(t, impl.ExCycle, ring, "box c { uses z; box d { uses i; } }")
	// A ring that nothing leads to does not matter.
	wantNodesOf(t, ring, "uses z;", "box b;")
	// The second way to a group leads to a ring, the first one does not.
	wantNoNodesOf(t, impl.ExCycle, "group g { uses i; box a { uses h; } } group h { uses i; uses g; } group i { box b; } ", "uses i; uses g;")
}

func TestGroupsThatAreUsedAgain(t *testing.T) {
	const groups = "group g { uses i; box a { uses i; } uses h; uses i; } group h { box b { uses i; } } group i { leaf c { type int; } } "
	const h, i = "box b { leaf c { type int; } }", "leaf c { type int; }"
	const g = i + "box a { " + i + " }" + h + i
	wantNodesOf(t, groups, "uses g; uses g;", g+g)
	wantNodesOf(t, groups, "uses i; uses g; uses h; uses i; uses g;", i+g+h+i+g)
	wantNodesOf(t, groups, "box d { uses g; } uses g; uses h; box e { uses h; uses g; }", "box d { "+g+" }"+g+h+"box e { "+h+g+" }")
	wantNodesOf(t, groups, "uses h; box f { uses h; box b { uses h; } }", h+"box f { "+h+"box b { "+h+" } }")
}

// expansionFaults are nodes with one thing that is wrong, by its code, each in
// two ways; the groups that they need are those of faultyModule.
func expansionFaults() map[int][][]impl.Schema {
	return map[int][][]impl.Schema{
		impl.ExGroup:  {usesOf("n"), usesOf("a")},
		impl.ExCycle:  {usesOf("c"), usesOf("d")},
		impl.ExSchema: {usesOf("f"), append(leaves(61), aUses("e"))},
	}
}

func faultyModule(more ...impl.Group) impl.Module {
	groups := []impl.Group{aGroup("a", aLeaf("b"), aBox("c", aUses("n"))), aGroup("c", aUses("c")), aGroup("d", aBox("a", aUses("d"))), aGroup("e"), aGroup("f", leaves(61)...)}
	return withGroups(append(groups, more...)...)
}

func TestTheFirstFaultCounts(t *testing.T) {
	for code, l := range expansionFaults() {
		for _, first := range l {
			wantNotExpanded(t, code, faultyModule(), first...)
			for _, others := range expansionFaults() {
				for _, other := range others {
					m := faultyModule(aGroup("x", first...), aGroup("y", other...), aGroup("z", aBox("b", aLeaf("c"), aUses("x")), aUses("y")))
					for _, nodes := range [][]impl.Schema{
						slices.Concat(first, other), {aBox("a", first...), aBox("b", other...)}, append(slices.Clone(first), aBox("a", other...)), append(oneSchema(aBox("a", first...)), other...),
						{aBox("a", aBox("b", first...), aBox("c", other...))}, append(oneSchema(aBox("a", aBox("b", aLeaf("c"), aList("d", first...)))), other...),
						{aBox("a", slices.Concat(first, other)...)}, {aChoice("a", aCase("b", first...), aCase("c", other...))},
						usesOf("xy"), {aUses("x"), aBox("a", aUses("y"))}, {aBox("a", aUses("x")), aUses("y")}, append(usesOf("x"), other...), append(slices.Clone(first), usesOf("y")...), usesOf("zy"), {aBox("a", aUses("z")), aUses("y")},
					} {
						wantNotExpanded(t, code, m, nodes...)
					}
				}
			}
		}
	}
	// Of what is wrong with one uses, it is the same.
	for _, nodes := range []string{"e", "ee"} {
		wantNotExpanded(t, impl.ExGroup, faultyModule(), append(leaves(70), usesOf("n"+nodes)...)...)
		wantNotExpanded(t, impl.ExCycle, faultyModule(), append(leaves(70), usesOf("c"+nodes)...)...)
		wantNotExpanded(t, impl.ExSchema, faultyModule(), append(leaves(70), usesOf(nodes+"nc")...)...)
	}
}

func TestNumberOfUses(t *testing.T) {
	// The group d uses two of no kids, so that three are begun, and h has a uses below.
	m := withGroups(aGroup("e"), aGroup("d", usesOf("ee")...), aGroup("h", aBox("b", aUses("e"))), aGroup("l", aLeaf("x")), aGroup("c", aUses("c")))
	uses := func(name string, count int) []impl.Schema {
		return slices.Repeat(oneSchema(aUses(name)), count)
	}
	box := aBox("b")
	wantExpanded(t, m, uses("e", 59))
	wantExpanded(t, m, uses("e", 60))
	wantNotExpanded(t, impl.ExSchema, m, uses("e", 61)...)
	wantNotExpanded(t, impl.ExSchema, m, uses("e", 200)...)
	wantExpanded(t, m, uses("d", 20))
	wantNotExpanded(t, impl.ExSchema, m, uses("d", 21)...)
	wantNotExpanded(t, impl.ExSchema, m, append(uses("e", 58), uses("d", 1)...)...)
	wantNotExpanded(t, impl.ExSchema, m, append(uses("e", 59), uses("d", 1)...)...)
	wantNotExpanded(t, impl.ExSchema, m, append(uses("e", 60), uses("d", 1)...)...)
	wantNotExpanded(t, impl.ExSchema, m, append(uses("d", 20), uses("e", 1)...)...)
	wantExpanded(t, m, append(uses("e", 57), uses("d", 1)...))
	wantExpanded(t, m, uses("h", 30), slices.Repeat(oneSchema(box), 30)...)
	wantNotExpanded(t, impl.ExSchema, m, uses("h", 31)...)
	wantNotExpanded(t, impl.ExSchema, m, append(uses("h", 30), aUses("e"))...)
	// It does not matter where they stand, and whether nodes come of them.
	wantExpanded(t, m, []impl.Schema{aBox("a", uses("e", 20)...), aChoice("b", aCase("c", uses("e", 20)...)), aBox("d", aBox("e", uses("e", 20)...))}, aBox("a"), aChoice("b", aCase("c")), aBox("d", aBox("e")))
	wantNotExpanded(t, impl.ExSchema, m, aBox("a", uses("e", 20)...), aChoice("b", aCase("c", uses("e", 20)...)), aBox("d", aBox("e", uses("e", 21)...)))
	wantNotExpanded(t, impl.ExSchema, m, aBox("a", uses("e", 20)...), aUses("e"), aChoice("b", aCase("c", uses("e", 20)...)), aBox("d", aBox("e", uses("e", 20)...)))
	wantExpanded(t, m, uses("l", 60), slices.Repeat(oneSchema(aLeaf("x")), 60)...)
	wantNotExpanded(t, impl.ExSchema, m, aBox("a", uses("l", 60)...), aUses("e"))
	// What else is wrong with the next one comes before it.
	wantNotExpanded(t, impl.ExGroup, m, append(uses("e", 60), aUses("none"), aUses("e"))...)
	wantNotExpanded(t, impl.ExSchema, m, append(uses("e", 60), aUses("e"), aUses("none"))...)
	wantNotExpanded(t, impl.ExCycle, m, append(uses("e", 59), aUses("c"))...)
	wantNotExpanded(t, impl.ExSchema, m, append(uses("e", 60), aUses("c"))...)
	// Each call counts for itself.
	for range 3 {
		wantExpanded(t, m, uses("e", 60))
	}
}

// rowOfGroups use each the next one; the last one has these kids.
func rowOfGroups(count int, last ...impl.Schema) impl.Module {
	m := impl.Module{Name: "m"}
	for i, s := range names(count) {
		m.Groups = append(m.Groups, aGroup(s, aUses("n"+impl.FormatInt(i+1))))
	}
	m.Groups[count-1].Kids = last
	return m
}

// usesOfFirst are for groups that rowOfGroups makes.
func usesOfFirst() []impl.Schema {
	return oneSchema(aUses("n0"))
}

func TestNumberOfUsesWithinEachOther(t *testing.T) {
	for _, count := range []int{1, 2, 7, 59, 60, 61, 62, 100} {
		m := rowOfGroups(count, aLeaf("a"))
		other := rowOfGroups(count, aUses("n0"))
		missing := rowOfGroups(count, aUses("none"))
		if count <= 60 {
			wantExpanded(t, m, usesOfFirst(), aLeaf("a"))
			wantNotExpanded(t, impl.ExCycle, other, usesOfFirst()...)
			wantNotExpanded(t, impl.ExGroup, missing, aUses("n0"))
		} else {
			wantNotExpanded(t, impl.ExSchema, m, usesOfFirst()...)
			wantNotExpanded(t, impl.ExSchema, other, usesOfFirst()...)
			wantNotExpanded(t, impl.ExSchema, missing, aUses("n0"))
			wantExpanded(t, m, oneSchema(aUses(names(count)[count-60])), aLeaf("a"))
		}
	}
}

func TestNumberOfNodesBehindAUses(t *testing.T) {
	group := func(count int) impl.Module {
		return withGroups(aGroup("e"), aGroup("g", leaves(count)...), aGroup("b", aBox("b", leaves(count-1)...)), aGroup("u", append(usesOf("e"), leaves(count)...)...), aGroup("v", append(leaves(count), aUses("e"))...))
	}
	full, one, behind := group(60), group(61), []impl.Schema{aLeaf("y"), aBox("z", leaves(70)...)}
	for _, name := range strings.Split("gbuv", "") {
		all := map[string][]impl.Schema{"g": leaves(60), "b": oneSchema(aBox("b", leaves(59)...)), "u": leaves(60), "v": leaves(60)}[name]
		wantExpanded(t, full, usesOf(name), all...)
		wantExpanded(t, full, append(usesOf("e"+name+"e"), behind...), append(all, behind...)...)
		wantExpanded(t, full, []impl.Schema{aBox("a", aUses(name)), aBox("c", aUses(name)), aLeaf("d")}, aBox("a", all...), aBox("c", all...), aLeaf("d"))
		wantNotExpanded(t, impl.ExSchema, full, append(leaves(1), usesOf(name)...)...)
		wantNotExpanded(t, impl.ExSchema, full, append(usesOf(name), aLeaf("a"), aUses("e"))...)
		wantNotExpanded(t, impl.ExSchema, full, aBox("a", append(leaves(1), usesOf(name)...)...))
		wantNotExpanded(t, impl.ExSchema, full, aBox("a", aUses(name)), aUses("e"))
		wantNotExpanded(t, impl.ExSchema, one, aUses(name))
		wantNotExpanded(t, impl.ExSchema, one, aLeaf("a"), aBox("b", aLeaf("c"), aUses(name)), aLeaf("d"))
		wantNotExpanded(t, impl.ExSchema, one, append(usesOf(name), behind...)...)
	}
}

func TestNumberOfNodesBeforeAUses(t *testing.T) {
	m := withGroups(aGroup("e"), aGroup("f", aUses("e")), aGroup("g", aBox("x", aLeaf("y"))))
	deep := aBox("a", aChoice("b", aCase("c", leaves(56)...)), aBox("d"))
	for _, before := range [][]impl.Schema{leaves(60), {aBox("a", leaves(59)...)}, {deep}, {aBox("a", leaves(29)...), aList("b", leaves(28)...)}} {
		for _, name := range strings.Split("ef", "") {
			wantExpanded(t, m, append(slices.Clone(before), aUses(name)), before...)
			wantExpanded(t, m, append(slices.Clone(before), aUses(name), aLeaf("z")), append(slices.Clone(before), aLeaf("z"))...)
			wantNotExpanded(t, impl.ExSchema, m, append(slices.Clone(before), aLeaf("z"), aUses(name))...)
			wantNotExpanded(t, impl.ExSchema, m, append(oneSchema(aLeaf("z")), append(slices.Clone(before), aUses(name))...)...)
			wantNotExpanded(t, impl.ExSchema, m, aBox("up", append(slices.Clone(before), aLeaf("z"), aUses(name))...))
			wantNotExpanded(t, impl.ExSchema, m, append(slices.Clone(before), aUses(name), aLeaf("z"), aUses(name))...)
			// Where no uses stands behind them, they are not counted.
			wantExpanded(t, m, append(usesOf(name), append(slices.Clone(before), aLeaf("z"))...), append(slices.Clone(before), aLeaf("z"))...)
			wantExpanded(t, m, append(slices.Clone(before), aLeaf("z"), aBox("b", aUses(name))), append(slices.Clone(before), aLeaf("z"), aBox("b"))...)
			wantExpanded(t, m, []impl.Schema{aBox("a", aUses(name), aBox("b", append(slices.Clone(before), aLeaf("z"))...))}, aBox("a", aBox("b", append(slices.Clone(before), aLeaf("z"))...)))
			wantExpanded(t, m, []impl.Schema{aBox("a", append(slices.Clone(before), aUses(name))...), aBox("b", append(slices.Clone(before), aUses(name))...)}, aBox("a", before...), aBox("b", before...))
		}
		wantNotExpanded(t, impl.ExSchema, m, append(slices.Clone(before), aUses("g"))...)
		wantNotExpanded(t, impl.ExSchema, m, append(slices.Clone(before[1:]), append(leaves(61), aUses("g"))...)...)
	}
	wantExpanded(t, m, append(leaves(58), aUses("g")), append(leaves(58), aBox("x", aLeaf("y")))...)
	wantNotExpanded(t, impl.ExSchema, m, append(leaves(59), aUses("g"))...)
	for _, count := range []int{61, 200, 3000} {
		wantExpanded(t, m, leaves(count), leaves(count)...)
		wantExpanded(t, m, oneSchema(aBox("a", leaves(count)...)), aBox("a", leaves(count)...))
		wantExpanded(t, m, append(usesOf("g"), leaves(count)...), append(oneSchema(aBox("x", aLeaf("y"))), leaves(count)...)...)
		wantNotExpanded(t, impl.ExSchema, m, append(leaves(count), aUses("e"))...)
	}
}

// The nodes of the group in which a uses stands are counted, without those of
// the lists in which that group is used.
func TestNodesAreCountedInTheListOfTheUses(t *testing.T) {
	m := withGroups(aGroup("e"), aGroup("g", append(leaves(30), usesOf("en")...)...), aGroup("h", append(leaves(61), usesOf("en")...)...), aGroup("i", append(leaves(60), usesOf("en")...)...), aGroup("j", aBox("a", append(leaves(60), aUses("e"))...)))
	wantNotExpanded(t, impl.ExGroup, m, append(leaves(40), aUses("g"))...)
	wantNotExpanded(t, impl.ExGroup, m, append(leaves(400), aUses("g"))...)
	wantNotExpanded(t, impl.ExGroup, m, append(leaves(60), aUses("i"))...)
	wantNotExpanded(t, impl.ExGroup, m, aUses("i"))
	wantNotExpanded(t, impl.ExSchema, m, aUses("h"))
	wantNotExpanded(t, impl.ExSchema, m, aUses("j"), aUses("n"))
	wantNotExpanded(t, impl.ExSchema, m, aBox("b", aUses("j")), aUses("n"))
}

// doubled has groups of which each has the next one so many times: side by side,
// below boxes, or behind other nodes.
func doubled(count int, times int) []impl.Module {
	flat, deep, more := rowOfGroups(count, aLeaf("a")), rowOfGroups(count, aLeaf("a")), rowOfGroups(count)
	for i := range count - 1 {
		uses := flat.Groups[i].Kids[0]
		flat.Groups[i].Kids = slices.Repeat(oneSchema(uses), times)
		deep.Groups[i].Kids = slices.Repeat(oneSchema(aBox("b", uses)), times)
		more.Groups[i].Kids = append(leaves(2), slices.Repeat(oneSchema(uses), times)...)
	}
	return []impl.Module{flat, deep, more}
}

// They would have more nodes than there can be.
func TestGroupsThatDoubleEachOther(t *testing.T) {
	inTime(t, "groups that double each other", func() {
		for _, times := range []int{2, 3, 10, 50} {
			for _, count := range []int{6, 7, 30, 59, 60, 61, 1000} {
				for _, m := range doubled(count, times) {
					got, code := impl.ExpandNodes(m, usesOfFirst())
					boxed, boxedCode := impl.ExpandNodes(m, []impl.Schema{aBox("a", aUses("n1")), aUses("n0")})
					if code != impl.ExSchema || boxedCode != impl.ExSchema || len(got)+len(boxed) > 0 {
						t.Errorf("%d groups that have %d times the next one give %d and %d", count, times, code, boxedCode)
					}
				}
			}
		}
	})
	leaf, boxes := aLeaf("a"), []impl.Schema{aBox("b", aLeaf("a")), aBox("b", aLeaf("a"))}
	wantExpanded(t, doubled(3, 2)[0], usesOfFirst(), leaf, leaf, leaf, leaf)
	wantExpanded(t, doubled(3, 2)[1], usesOfFirst(), aBox("b", boxes...), aBox("b", boxes...))
	wantExpanded(t, doubled(3, 2)[2], usesOfFirst(), slices.Repeat(leaves(2), 3)...)
	wantExpanded(t, doubled(5, 2)[0], usesOfFirst(), slices.Repeat(oneSchema(leaf), 16)...)
	wantNotExpanded(t, impl.ExSchema, doubled(6, 2)[0], usesOfFirst()...)
	// One that uses another 59 times has begun 60 uses.
	wantExpanded(t, doubled(2, 59)[0], usesOfFirst(), slices.Repeat(oneSchema(leaf), 59)...)
	wantNotExpanded(t, impl.ExSchema, doubled(2, 60)[0], usesOfFirst()...)
	wantExpanded(t, doubled(2, 29)[1], usesOfFirst(), slices.Repeat(boxes[:1], 29)...)
	wantExpanded(t, doubled(2, 30)[1], usesOfFirst(), slices.Repeat(boxes[:1], 30)...)
	wantNotExpanded(t, impl.ExSchema, doubled(2, 31)[1], usesOfFirst()...)
	wantNodesOf(t, "group g { box a { uses h; } box b { uses h; } } group h { box c { uses i; } box d { uses i; } } group i { box e; box f; } ", "uses g;", "box a { box c { box e; box f; } box d { box e; box f; } } box b { box c { box e; box f; } box d { box e; box f; } }")
}

func TestExpandNodesAsksForNothing(t *testing.T) {
	// Names that are none.
	for _, s := range append(textsThatAreNoNames(), "", "A", "\x00", "a b", strings.Repeat("g", 200)) {
		m := impl.Module{Name: s, Groups: []impl.Group{aGroup("g"), aGroup(s, aBox(s, aUses("g"))), aGroup(s+"x", aLeaf("x"))}}
		wantExpanded(t, m, []impl.Schema{aUses(s), aBox("a", aUses(s))}, aBox(s), aBox("a", aBox(s)))
		wantNotExpanded(t, impl.ExGroup, m, aUses(s+"y"))
		wantNotExpanded(t, impl.ExCycle, withGroups(aGroup(s, aUses(s))), aUses(s))
	}
	// A uses with other fields, and with kids, which go away with it.
	full := fullSchema(3)
	full.Kind, full.Name = impl.NdUses, "g"
	m := withGroups(aGroup("g", aLeaf("x")), aGroup("c", aUses("c")), aGroup("e"))
	wantExpanded(t, m, oneSchema(full), aLeaf("x"))
	wantExpanded(t, m, oneSchema(aBox("a", full, full)), aBox("a", aLeaf("x"), aLeaf("x")))
	for _, kids := range [][]impl.Schema{usesOf("g"), usesOf("none"), usesOf("c"), leaves(70), slices.Repeat(oneSchema(aUses("e")), 100), {aBox("b", aUses("none"))}} {
		uses := aUses("g")
		uses.Kids = kids
		wantExpanded(t, m, []impl.Schema{uses, aBox("b", uses), uses}, aLeaf("x"), aBox("b", aLeaf("x")), aLeaf("x"))
		wantExpanded(t, withGroups(aGroup("g", aLeaf("x")), aGroup("h", uses)), usesOf("h"), aLeaf("x"))
		wantExpanded(t, m, slices.Repeat(oneSchema(uses), 60), slices.Repeat(oneSchema(aLeaf("x")), 60)...)
		uses.Name = "none"
		wantNotExpanded(t, impl.ExGroup, m, uses)
	}
	// Kinds that are none, and those that have no kids.
	for _, kind := range append(kindsThatAreNone(), impl.NdLeaf, impl.NdMany) {
		n := impl.Schema{Kind: kind, Name: "g", Kids: append(usesOf("gg"), aCase("a", aUses("g")))}
		want := impl.Schema{Kind: kind, Name: "g", Kids: []impl.Schema{aLeaf("x"), aLeaf("x"), aCase("a", aLeaf("x"))}}
		wantExpanded(t, m, []impl.Schema{n, aBox("b", n)}, want, aBox("b", want))
		wantExpanded(t, withGroups(aGroup("g", aLeaf("x")), aGroup("h", n)), usesOf("hg"), want, aLeaf("x"))
		wantNotExpanded(t, impl.ExGroup, m, impl.Schema{Kind: kind, Kids: usesOf("n")})
	}
	// More groups than MaxGroups, and what else is no module.
	groups := []impl.Group{}
	for i, s := range names(100) {
		groups = append(groups, aGroup(s, aLeaf("x"+impl.FormatInt(i))))
	}
	wantExpanded(t, withGroups(groups...), []impl.Schema{aUses("n99"), aUses("n0"), aUses("n57")}, aLeaf("x99"), aLeaf("x0"), aLeaf("x57"))
	wantExpanded(t, impl.Module{Groups: []impl.Group{aGroup("g", aLeaf(""), aLeaf(""))}}, usesOf("gg"), aLeaf(""), aLeaf(""), aLeaf(""), aLeaf(""))
	deep := below(slices.Repeat([]int{impl.NdBox}, 20), aUses("g"))
	wantExpanded(t, m, deep, below(slices.Repeat([]int{impl.NdBox}, 20), aLeaf("x"))...)
}

func TestNodesAndGroupsThatAreNilOrEmpty(t *testing.T) {
	for _, none := range [][]impl.Schema{nil, {}} {
		for _, groups := range [][]impl.Group{nil, {}, {{Name: "g"}}, {{Name: "g", Kids: none}, {}}} {
			m := impl.Module{Name: "m", Groups: groups, Body: none}
			wantExpanded(t, m, none)
			wantExpanded(t, m, oneSchema(aBox("a", none...)), aBox("a"))
			wantUsed(t, m, none)
			wantModuleExpansion(t, impl.Module{Name: "m", Body: none, Augments: []impl.Augment{}}, none, impl.ExFine)
			if len(groups) > 0 {
				wantExpanded(t, m, usesOf("g"))
				wantExpanded(t, m, oneSchema(aBox("a", aUses("g"))), aBox("a"))
			} else {
				wantNotExpanded(t, impl.ExGroup, m, aUses("g"))
			}
		}
	}
	wantExpanded(t, impl.Module{Groups: []impl.Group{{}}}, oneSchema(aUses("")))
}

func TestExpandModule(t *testing.T) {
	wantSchemaOf(t, "", "")
	wantSchemaOf(t, "group g { uses g; } group h { uses none; } group i { case a; leaf b { type int; } leaf b { type int; } }", "")
	wantSchemaOf(t, "box a { leaf b { type int; } } many c { type text; }", "box a { leaf b { type int; } } many c { type text; }")
	wantSchemaOf(t, "group g { box b { uses h; } } group h { leaf x { type bool; } } uses g; augment /b { leaf y { type flag; } }", "box b { leaf x { type bool; } leaf y { type flag; } }")
	wantSchemaOf(t, "group k { leaf id { type int 1..9; } } list user { key id; uses k; } list host { key id; unique id; min 1; max 3; must 1; uses k; }", "list user { key id; leaf id { type int 1..9; } } list host { key id; unique id; min 1; max 3; must 1; leaf id { type int 1..9; } }")
	wantSchemaOf(t, "group c { case a { uses l; } case b; } group l { leaf x { type int; } } choice d { needed; uses c; }", "choice d { needed; case a { leaf x { type int; } } case b; }")
	// The rest of the module is not asked for anything.
	wantSchemaOf(t, "group g { leaf x { type ref \"/none\"; must none; } } box g { uses g; }", "box g { leaf x { type ref \"/none\"; must none; } }")
}

func TestAugmentsOfEveryKind(t *testing.T) {
	// What is added at an address stands where that is between < and >.
	const body = "box a { leaf x { type int; } <a> } list l { key k; leaf k { type int; } <l> } leaf f { type int; } many m { type int; } choice c { case d { box e { list s { key k; leaf k { type int; } <e/s> } box i { <e/i> } <e> } leaf g { type int; } } } box o { <o> }"
	with := func(way string, nodes string) string {
		s := body
		for _, place := range strings.Fields("a l e e/s e/i o") {
			if place == way {
				s = strings.Replace(s, "<"+place+">", nodes, 1)
			} else {
				s = strings.Replace(s, "<"+place+">", "", 1)
			}
		}
		return s
	}
	for _, nodes := range []string{"", "leaf y { type int; } box z;", "choice y { case z { many y { type int; } } }"} {
		for _, way := range strings.Fields("a l e e/s e/i o") {
			wantSchemaOf(t, with("", "")+" augment /"+way+" { "+nodes+" }", with(way, nodes))
		}
		// A leaf, a many, a choice and a case are no target, and neither is what is not there.
		for _, way := range strings.Fields("f m c d c/d c/d/e c/e d/e g a/x l/k e/s/k a/a a/y a/z x k s i none a/none none/a e/s/i o/o y z") {
			wantNoSchemaOf(t, impl.ExTarget, with("", "")+" augment /"+way+" { "+nodes+" }")
		}
	}
}

func TestSeveralAugments(t *testing.T) {
	const x, y, z = "leaf x { type int; }", "leaf y { type int; }", "leaf z { type int; }"
	// The order of two augments of one place.
	wantSchemaOf(t, "box a { "+z+" } augment /a { "+x+" } augment /a { "+y+" }", "box a { "+z+x+y+" }")
	wantSchemaOf(t, "box a { "+z+" } augment /a { "+y+" } augment /a { "+x+" }", "box a { "+z+y+x+" }")
	wantSchemaOf(t, "box a; box b; augment /b { "+x+" } augment /a { "+y+" } augment /b { "+z+" }", "box a { "+y+" } box b { "+x+z+" }")
	// A place that an augment before has added, and one that only one behind adds.
	wantSchemaOf(t, "box a; augment /a { box b; } augment /a/b { "+x+" box c; } augment /a/b/c { "+y+" }", "box a { box b { "+x+" box c { "+y+" } } }")
	wantNoSchemaOf(t, impl.ExTarget, "box a; augment /a/b { "+x+" } augment /a { box b; }")
	wantNoSchemaOf(t, impl.ExTarget, "box a; augment /a { box b; } augment /a/b/c { "+x+" } augment /a/b { box c; }")
	wantSchemaOf(t, "box a; augment /a { choice c { case d { box b; } } } augment /a/b { "+x+" }", "box a { choice c { case d { box b { "+x+" } } } }")
	wantNoSchemaOf(t, impl.ExTarget, "box a; augment /a { } augment /a/b { } augment /a { }")
	// Six of them, one below the other.
	wantSchemaOf(t, "box a; augment /a { box a; } augment /a/a { box a; } augment /a/a/a { box a; } augment /a/a/a/a { box a; } augment /a/a/a/a/a { box a; } augment /a/a/a/a/a/a { "+x+" }", "box a { box a { box a { box a { box a { box a { "+x+" } } } } } }")
}

func TestAugmentsAndGroups(t *testing.T) {
	const x, y, z = "leaf x { type int; }", "leaf y { type int; }", "leaf z { type int; }"
	const g = "group g { box b { " + x + " } } "
	// A node that comes from a group, which is used twice: only one of both changes.
	wantSchemaOf(t, g+"uses g; box a { uses g; } augment /b { "+y+" }", "box b { "+x+y+" } box a { box b { "+x+" } }")
	wantSchemaOf(t, g+"uses g; box a { uses g; } augment /a/b { "+y+" }", "box b { "+x+" } box a { box b { "+x+y+" } }")
	wantSchemaOf(t, g+"uses g; box a; augment /a { uses g; } augment /b { "+y+" }", "box b { "+x+y+" } box a { box b { "+x+" } }")
	wantSchemaOf(t, g+"uses g; box a; augment /b { "+y+" } augment /a { uses g; } augment /a/b { "+z+" } augment /b { "+z+" }", "box b { "+x+y+z+" } box a { box b { "+x+z+" } }")
	// An augment with a uses, at every depth.
	wantSchemaOf(t, g+"box a; augment /a { uses g; }", "box a { box b { "+x+" } }")
	wantSchemaOf(t, g+"group h { "+y+" uses g; } box a { "+z+" } augment /a { box c { uses h; } uses h; box d; }", "box a { "+z+" box c { "+y+" box b { "+x+" } } "+y+" box b { "+x+" } box d; }")
	wantNoSchemaOf(t, impl.ExGroup, g+"box a; augment /a { uses h; }")
	wantNoSchemaOf(t, impl.ExCycle, "group h { uses h; } box a; augment /a { uses h; }")
	// The groups around the place are not open there.
	wantSchemaOf(t, "group g { box b { uses h; } } group h { "+x+" } uses g; augment /b { box c { uses g; } }", "box b { "+x+" box c { box b { "+x+" } } }")
	// A group of no nodes adds none.
	wantSchemaOf(t, "group n { } box a { uses n; } augment /a { uses n; uses n; }", "box a;")
}

// Nodes of the body that are not valid are found by their names as FindNode finds them.
func TestAugmentsOfSeveralNodesOfOneName(t *testing.T) {
	wantNoSchemaOf(t, impl.ExTarget, "leaf a { type int; } box a; augment /a { }")
	wantNoSchemaOf(t, impl.ExSchema, "box a; leaf a { type int; } augment /a { }")
	wantNoSchemaOf(t, impl.ExTarget, "box a { box b; } box a { box c; } augment /a/c { }")
	wantNoSchemaOf(t, impl.ExSchema, "box a { box b; } box a { box c; } augment /a/b { }")
	wantNoSchemaOf(t, impl.ExTarget, "choice c { case d { leaf a { type int; } } } box a; augment /a { }")
	wantNoSchemaOf(t, impl.ExSchema, "choice c { case d { box a; } } leaf a { type int; } augment /a { }")
	wantNoSchemaOf(t, impl.ExSchema, "choice c { box a; } augment /a { }")
	wantNoSchemaOf(t, impl.ExSchema, "case c { box a; } augment /a { }")
	wantNoSchemaOf(t, impl.ExTarget, "box a; box a; augment /b { }")
	// A choice and a case with the name are none of them.
	wantSchemaOf(t, "choice b { case a { box d; } } box a { box a; } augment /a/a { box b; }", "choice b { case a { box d; } } box a { box a { box b; } }")
	wantSchemaOf(t, "choice c { case c { box c; } } augment /c { box c; }", "choice c { case c { box c { box c; } } }")
}

// Bodies and augments that are valid by themselves, but not together.
func TestSchemasThatAreNotValidTogether(t *testing.T) {
	const x, y = "leaf x { type int; }", "leaf y { type int; }"
	// Two nodes of one name.
	wantNoSchemaOf(t, impl.ExSchema, "box a { "+x+" } augment /a { many x { type text; } }")
	wantNoSchemaOf(t, impl.ExSchema, "box a; augment /a { "+x+" } augment /a { "+x+" }")
	wantNoSchemaOf(t, impl.ExSchema, "group g { "+x+" } uses g; uses g;")
	wantNoSchemaOf(t, impl.ExSchema, "group g { "+x+" } "+x+" uses g;")
	wantNoSchemaOf(t, impl.ExSchema, "group g { "+x+" } box a { uses g; } augment /a { choice c { case d { uses g; } } }")
	wantSchemaOf(t, "group g { "+x+" } box a { uses g; } augment /a { box c { uses g; } }", "box a { "+x+" box c { "+x+" } }")
	// A key that an augment or a group adds, or that is none there.
	const list = "list l { key x; } "
	wantNoSchemaOf(t, impl.ExSchema, list)
	wantSchemaOf(t, list+"augment /l { "+x+" }", "list l { key x; "+x+" }")
	wantSchemaOf(t, list+"augment /l { "+y+" } augment /l { "+x+" }", "list l { key x; "+y+x+" }")
	wantSchemaOf(t, "group g { "+y+x+" } "+list+"augment /l { uses g; }", "list l { key x; "+y+x+" }")
	wantNoSchemaOf(t, impl.ExSchema, list+"augment /l { "+y+" }")
	wantNoSchemaOf(t, impl.ExSchema, list+"augment /l { box x; }")
	wantNoSchemaOf(t, impl.ExSchema, list+"augment /l { leaf x { type flag; } }")
	wantNoSchemaOf(t, impl.ExSchema, list+"augment /l { leaf x { type int; when 1; } }")
	wantNoSchemaOf(t, impl.ExSchema, list+"augment /l { choice c { case d { "+x+" } } }")
	wantNoSchemaOf(t, impl.ExSchema, "list l { key x; unique y; } augment /l { "+x+" }")
	wantSchemaOf(t, "list l { key x; unique y; } augment /l { "+x+y+" }", "list l { key x; unique y; "+x+y+" }")
	// Cases and kids of choices, where they stand when all is done.
	wantNoSchemaOf(t, impl.ExSchema, "case a;")
	wantNoSchemaOf(t, impl.ExSchema, "group g { case a; } uses g;")
	wantNoSchemaOf(t, impl.ExSchema, "group g { case a; } box b { uses g; }")
	wantNoSchemaOf(t, impl.ExSchema, "group g { "+x+" } choice b { uses g; }")
	wantNoSchemaOf(t, impl.ExSchema, "box b; augment /b { case a; }")
	wantSchemaOf(t, "group g { case a; } choice b { uses g; }", "choice b { case a; }")
	// A default below a condition.
	const given = "leaf x { type int; default \"7\"; }"
	wantNoSchemaOf(t, impl.ExSchema, "box a { when 1; box b; } augment /a/b { "+given+" }")
	wantNoSchemaOf(t, impl.ExSchema, "group g { "+given+" } choice a { case b { uses g; } }")
	wantSchemaOf(t, "group g { "+given+" } box a { box b; } augment /a/b { uses g; }", "box a { box b { "+given+" } }")
}

func TestHowManyNodesAndHowDeepTogether(t *testing.T) {
	// 3 boxes with the 15 nodes of a group each, one box, and the nodes of an augment.
	for count := range 20 {
		groups := []impl.Group{aGroup("g", leaves(15)...)}
		body := []impl.Schema{aBox("a", aUses("g")), aBox("b", aUses("g")), aBox("c", aUses("g")), aBox("d")}
		m := impl.Module{Name: "m", Groups: groups, Body: body, Augments: []impl.Augment{anAugment("d", leaves(count)...), anAugment("d")}}
		want := []impl.Schema{aBox("a", leaves(15)...), aBox("b", leaves(15)...), aBox("c", leaves(15)...), aBox("d", leaves(count)...)}
		if 3*16+1+count <= impl.MaxNodes {
			wantModuleExpansion(t, m, want, impl.ExFine)
		} else {
			wantModuleExpansion(t, m, nil, impl.ExSchema)
		}
	}
	for _, kind := range []int{impl.NdBox, impl.NdList} {
		for above := 1; above <= impl.MaxDeep; above++ {
			for inner := 1; inner <= impl.MaxDeep; inner++ {
				upper, lower := below(slices.Repeat([]int{kind}, above)), below(slices.Repeat([]int{kind}, inner))
				m := impl.Module{Name: "m", Body: upper}
				m.Augments = []impl.Augment{{Names: addressBelow(upper), Kids: lower}}
				want, code := moduleExpandedByRules(m)
				wantModuleExpansion(t, m, want, code)
				height := above + inner
				if kind == impl.NdList {
					height++ // The lowest list has a leaf.
				}
				if (code == impl.ExFine) != (height <= impl.MaxDeep) && code != impl.ExModule {
					t.Errorf("%d nodes within %d give %d", inner, above, code)
				}
			}
		}
	}
	// Groups within groups, of which each by itself is not deep.
	for count := 1; count <= impl.MaxGroups; count++ {
		m := rowOfGroups(count, aBox("last"))
		for i := range count - 1 {
			m.Groups[i].Kids = oneSchema(aBox("a", aBox("b", m.Groups[i].Kids...)))
		}
		m.Body = usesOfFirst()
		want, code := moduleExpandedByRules(m)
		wantModuleExpansion(t, m, want, code)
		if (code == impl.ExFine) != (2*count-1 <= impl.MaxDeep) {
			t.Errorf("%d groups give %d", count, code)
		}
	}
}

// addressBelow is the address of the first kid of the first kid, and so on, that
// is a box or a list.
func addressBelow(l []impl.Schema) []string {
	for _, n := range l {
		if n.Kind == impl.NdBox || n.Kind == impl.NdList {
			return append([]string{n.Name}, addressBelow(n.Kids)...)
		}
	}
	return nil
}

func TestModulesThatAreNotValidAreNotExpanded(t *testing.T) {
	fine := mustReadModule(t, "module m { group g { leaf x { type int; } } box a { uses g; } augment /a { box b; } }")
	wantModuleExpansion(t, fine, []impl.Schema{aBox("a", aLeaf("x"), aBox("b"))}, impl.ExFine)
	for i, change := range []func(m *impl.Module){
		func(m *impl.Module) { m.Name = "" }, func(m *impl.Module) { m.Name = "M" },
		func(m *impl.Module) { m.Groups = append(m.Groups, aGroup("G")) }, func(m *impl.Module) { m.Groups = append(m.Groups, aGroup("g")) },
		func(m *impl.Module) { m.Groups = append(m.Groups, aGroup("h", aLeaf("X"))) },
		func(m *impl.Module) { m.Groups = append(m.Groups, aGroup("h", leaves(60)...)) },
		func(m *impl.Module) { m.Groups = append(m.Groups, make([]impl.Group, 6)...) },
		func(m *impl.Module) { m.Body = append(m.Body, impl.Schema{}) }, func(m *impl.Module) { m.Body = append(m.Body, leaves(60)...) },
		func(m *impl.Module) { m.Body = append(m.Body, withWhen(aUses("g"))) },
		func(m *impl.Module) { m.Body = append(m.Body, below(slices.Repeat([]int{impl.NdBox}, 9))...) },
		func(m *impl.Module) { m.Augments = append(m.Augments, impl.Augment{}) },
		func(m *impl.Module) { m.Augments = append(m.Augments, anAugment("A")) },
		func(m *impl.Module) { m.Augments = append(m.Augments, anAugment("a", aLeaf("X"))) },
		func(m *impl.Module) { m.Augments = slices.Repeat(m.Augments, 7) },
		func(m *impl.Module) {
			m.Augments = append(m.Augments, impl.Augment{Names: slices.Repeat([]string{"a"}, 11)})
		},
	} {
		m := moduleWithSpare(fine)
		change(&m)
		if isModuleByRules(m) {
			t.Errorf("the change %d leaves the module valid", i)
		}
		wantModuleExpansion(t, m, nil, impl.ExModule)
		// It comes before all else that is wrong.
		m.Body = append(m.Body, aUses("none"))
		wantModuleExpansion(t, m, nil, impl.ExModule)
		m.Augments = append(m.Augments, anAugment("none", aUses("none")))
		wantModuleExpansion(t, m, nil, impl.ExModule)
	}
}

// What is wrong with a module, at no, one, two or more of its parts, in all ways.
func TestTheFirstFaultOfAModuleCounts(t *testing.T) {
	faults := map[int][]impl.Schema{impl.ExFine: leaves(1), impl.ExGroup: usesOf("n"), impl.ExCycle: usesOf("c"), impl.ExSchema: {aBox("b", usesOf("www")...)}}
	ways := map[int]string{impl.ExFine: "a", impl.ExTarget: "none"}
	codes, targets := slices.Sorted(maps.Keys(faults)), slices.Sorted(maps.Keys(ways))
	seen := map[int]int{}
	choose := func(at *int, l []int) int {
		choice := l[*at%len(l)]
		*at /= len(l)
		return choice
	}
	for count := range 4 * (4 * 2) * (4 * 2) * 2 * 2 {
		rest := count
		body, first, firstWay, second, secondWay := choose(&rest, codes), choose(&rest, codes), choose(&rest, targets), choose(&rest, codes), choose(&rest, targets)
		isTwin, isNamed := choose(&rest, []int{0, 1}) == 1, choose(&rest, []int{0, 1}) == 1
		m := withGroups(aGroup("c", aUses("c")), aGroup("w", leaves(21)...))
		m.Body = []impl.Schema{aBox("a"), aBox("up", faults[body]...), aBox("last")}
		m.Augments = []impl.Augment{anAugment(ways[firstWay], aBox("x", faults[first]...)), anAugment(ways[secondWay], aBox("y", faults[second]...))}
		want := []int{impl.ExFine, body, first, firstWay, second, secondWay, impl.ExFine}
		if isTwin {
			m.Body[2].Name, want[6] = "up", impl.ExSchema
		}
		if !isNamed {
			m.Name, want[0] = "", impl.ExModule
		}
		place := max(0, slices.IndexFunc(want, func(code int) bool { return code != impl.ExFine }))
		seen[place]++
		var nodes []impl.Schema
		if want[place] == impl.ExFine {
			nodes = []impl.Schema{aBox("a", aBox("x", leaves(1)...), aBox("y", leaves(1)...)), aBox("up", leaves(1)...), aBox("last")}
		}
		wantModuleExpansion(t, m, nodes, want[place])
	}
	if len(seen) != 7 {
		t.Errorf("the first fault is at %v", seen)
	}
}

// Each part is expanded by itself: the uses of one do not count in another, and
// neither do the nodes.
func TestEachPartIsExpandedByItself(t *testing.T) {
	groups := []impl.Group{aGroup("e"), aGroup("f", slices.Repeat(usesOf("e"), 9)...), aGroup("g", slices.Repeat(usesOf("f"), 5)...)}
	// Each g begins 51 uses.
	m := impl.Module{Name: "m", Groups: groups, Body: []impl.Schema{aBox("a"), aUses("g")}, Augments: []impl.Augment{anAugment("a", usesOf("g")...), anAugment("a", aBox("b", usesOf("g")...))}}
	wantModuleExpansion(t, m, oneSchema(aBox("a", aBox("b"))), impl.ExFine)
	m.Body = []impl.Schema{aBox("a", aUses("e")), aUses("g"), aUses("g")}
	wantModuleExpansion(t, m, nil, impl.ExSchema)
	m.Body = []impl.Schema{aBox("a", slices.Repeat(usesOf("e"), 9)...), aUses("g")}
	wantModuleExpansion(t, m, oneSchema(aBox("a", aBox("b"))), impl.ExFine)
	m.Body = append(m.Body, aUses("e"))
	wantModuleExpansion(t, m, nil, impl.ExSchema)
	m.Body, m.Augments = oneSchema(aBox("a", leaves(20)...)), []impl.Augment{anAugment("a", aBox("c", leaves(20)...)), anAugment("a", aUses("e"), aUses("none"))}
	wantModuleExpansion(t, m, nil, impl.ExGroup)
	m.Augments[1].Kids[1].Name = "e"
	wantModuleExpansion(t, m, oneSchema(aBox("a", append(leaves(20), aBox("c", leaves(20)...))...)), impl.ExFine)
}

func TestUsedGroups(t *testing.T) {
	m := withGroups(aGroup("g", usesOf("hi")...), aGroup("h"))
	wantUsed(t, m, nil)
	wantUsed(t, m, m.Groups[0].Kids, "h", "i")
	for _, n := range oneOfEveryKind()[:impl.NdUses] {
		wantUsed(t, m, oneSchema(n))
		n.Name, n.Kids = "g", append(usesOf("ab"), n.Kids...)
		wantUsed(t, m, oneSchema(n), "a", "b")
		wantUsed(t, m, []impl.Schema{aUses("c"), n, aBox("d", n, aUses("e")), aUses("f")}, "c", "a", "b", "a", "b", "e", "f")
	}
	for _, kind := range kindsThatAreNone() {
		wantUsed(t, m, oneSchema(impl.Schema{Kind: kind, Name: "g", Kids: usesOf("gh")}), "g", "h")
	}
	wantUsed(t, m, usesOf("g"), "g")
	wantUsed(t, impl.Module{}, usesOf("abcba"), "a", "b", "c", "b", "a")
	wantUsed(t, m, usesOf("ggg"), "g", "g", "g")
	// Names of none, groups that are not there, and the nodes of other kinds with those names.
	wantUsed(t, m, []impl.Schema{aUses(""), aBox("g"), aUses("A b"), aLeaf("h"), aUses("none"), aUses(strings.Repeat("g", 99))}, "", "A b", "none", strings.Repeat("g", 99))
	// A uses that has kids stands before those below it.
	uses := aUses("a")
	uses.Kids = []impl.Schema{aUses("b"), aBox("c", aUses("d")), aUses("b")}
	wantUsed(t, m, oneSchema(uses), "a", "b", "d", "b")
	wantUsed(t, m, []impl.Schema{aChoice("x", aCase("y", uses), aCase("z", aUses("e"))), aUses("a"), uses}, "a", "b", "d", "b", "e", "a", "a", "b", "d", "b")
	for depth := range 30 {
		wantUsed(t, m, below(slices.Repeat([]int{impl.NdBox}, depth+1), aUses("g")), "g")
	}
	full := fullSchema(2)
	full.Kids[0].Kind, full.Kids[1].Kids[0].Kind = impl.NdUses, impl.NdUses
	wantUsed(t, m, oneSchema(full), "full0", "full0")
	many := []impl.Schema{}
	for _, s := range names(500) {
		many = append(many, aUses(s))
	}
	wantUsed(t, m, many, names(500)...)
}

// mixedExpansion is a module with many uses, and mostly with names that differ;
// it is the same in each run.
func mixedExpansion(seed uint64) impl.Module {
	b := &builder{source: rand.New(rand.NewPCG(seed, 12)), room: 30}
	groups := 1 + b.source.IntN(5)
	rings := b.oneIn(4)
	made := 0
	nodes := func(count int, place int) []impl.Schema {
		l := b.nodes(b.source.IntN(count))
		uses := func() impl.Schema {
			to := place + 1 + b.source.IntN(3)
			if rings {
				to = b.source.IntN(groups)
			}
			if to >= groups && !b.oneIn(6) {
				to = groups - 1
			}
			if !rings && to <= place {
				return aBox("z" + impl.FormatInt(made))
			}
			return aUses(string(rune('g' + to)))
		}
		for _, n := range everyNode(l) {
			made++
			if n.Name != "k" && n.Name != "l" {
				n.Name = "x" + impl.FormatInt(made)
			}
			if (n.Kind == impl.NdBox || n.Kind == impl.NdCase || n.Kind == impl.NdList) && b.oneIn(2) {
				n.Kids = slices.Insert(n.Kids, b.source.IntN(len(n.Kids)+1), uses())
			}
			if n.Given && !b.oneIn(5) {
				n.Given, n.Default = false, ""
			}
		}
		if b.oneIn(2) || place == groups {
			l = slices.Insert(l, b.source.IntN(len(l)+1), uses())
		}
		return l
	}
	m := impl.Module{Name: "m"}
	for i := range groups {
		m.Groups = append(m.Groups, aGroup(string(rune('g'+i)), nodes(3, i)...))
	}
	if b.oneIn(5) {
		m.Groups[groups-1].Kids = leaves(10 + b.source.IntN(20))
	}
	m.Body = nodes(5, -1)
	for range b.source.IntN(4) {
		if way := b.someAddress(m); len(way) > 0 {
			m.Augments = append(m.Augments, impl.Augment{Names: way, Kids: nodes(3, 0)})
		}
	}
	if b.oneIn(4) {
		b.change(m.Body)
	}
	return m
}

// someAddress mostly leads to a node that the module has so far; it is empty if
// there is none.
func (b *builder) someAddress(m impl.Module) []string {
	names := []string{}
	l, _ := expandedByRules(m, m.Body)
	l = schemasWithSpare(l)
	for _, a := range m.Augments {
		kids, _ := expandedByRules(m, a.Kids)
		addedByRules(l, a.Names, kids)
	}
	for {
		kids := slices.DeleteFunc(dataKidsByRules(l), func(n impl.Schema) bool { return n.Kind > impl.NdList && !b.oneIn(20) })
		if len(kids) == 0 || len(names) > 0 && b.oneIn(3) {
			break
		}
		n := kids[b.source.IntN(len(kids))]
		names, l = append(names, n.Name), n.Kids
	}
	if b.oneIn(20) {
		return append(names, "none")
	}
	return names
}

func TestMixedModulesAreExpandedAsTheRulesSay(t *testing.T) {
	modules, nodes, changed := map[int]int{}, map[int]int{}, 0
	for seed := range uint64(6000) {
		m := mixedExpansion(seed)
		wantPartsExpanded(t, m)
		schema, code := moduleExpandedByRules(m)
		wantModuleExpansion(t, m, schema, code)
		modules[code]++
		if code == impl.ExFine && len(usedByRules(m.Body)) > 0 && len(m.Augments) > 0 {
			changed++
		}
		parts := partsByRules(m)
		part := parts[int(seed)%len(parts)]
		want, code := expandedByRules(m, part)
		wantExpansion(t, m, part, want, code)
		nodes[code]++
		if t.Failed() {
			return
		}
	}
	for code := impl.ExFine; code <= impl.ExSchema; code++ {
		isOfNodes := code != impl.ExModule && code != impl.ExTarget
		if modules[code] < 100 || isOfNodes && nodes[code] < 10 {
			t.Errorf("the code %d is that of %d modules, and that of %d lists of nodes", code, modules[code], nodes[code])
		}
	}
	if changed < 200 {
		t.Errorf("only %d valid modules use groups and have augments", changed)
	}
}

func TestLongExpansionsEnd(t *testing.T) {
	inTime(t, "nodes that lie within themselves", func() {
		for _, l := range endlessSchemas() {
			for _, m := range []impl.Module{{}, withGroups(aGroup("a", l...), aGroup("", l...)), withGroups(aGroup("a", usesOf("a")...), aGroup("", aBox("b", l...))), withGroups(aGroup("a"), aGroup(""))} {
				for _, nodes := range [][]impl.Schema{l, {aUses("a")}, append(usesOf("a"), l...), {aBox("b", append(slices.Clone(l), aUses(""))...)}} {
					got, code := impl.ExpandNodes(m, nodes)
					if used := impl.UsedGroups(m, got); len(used) > 0 || code == impl.ExModule || code == impl.ExTarget || code != impl.ExFine && len(got) > 0 {
						t.Errorf("wrong about nodes that lie within themselves: %d, %d nodes", code, len(got))
					}
					impl.UsedGroups(m, nodes)
				}
			}
			for _, m := range []impl.Module{aModule(l...), {Name: "m", Groups: []impl.Group{aGroup("a", l...)}}, {Name: "m", Augments: []impl.Augment{anAugment("a", l...)}}} {
				if got, code := impl.ExpandModule(m); code != impl.ExModule || len(got) > 0 {
					t.Errorf("a module that lies within itself gives %d", code)
				}
			}
		}
	})
	inTime(t, "deep nodes", func() {
		// No nodes may lead to so many calls within calls that they break off.
		defer debug.SetMaxStack(debug.SetMaxStack(1 << 24))
		const depth = 100000
		for kind := impl.NdBox; kind <= impl.NdCase; kind++ {
			l := oneSchema(schemaWithin(kind, depth))
			got, code := impl.ExpandNodes(impl.Module{}, l)
			if code != impl.ExFine || impl.CountSchema(got) != depth+1 {
				t.Errorf("deep nodes of the kind %d give %d", kind, code)
			}
			m := withGroups(aGroup("g", l...), aGroup("h", append(slices.Clone(l), aUses("i"))...), aGroup("i", aLeaf("a")))
			for name, want := range map[string]int{"g": impl.ExSchema, "h": impl.ExSchema, "i": impl.ExFine, "j": impl.ExGroup} {
				deep := aUses(name)
				for range depth {
					deep = impl.Schema{Kind: kind, Kids: oneSchema(deep)}
				}
				if got, code := impl.ExpandNodes(m, oneSchema(deep)); code != want || code == impl.ExFine && impl.CountSchema(got) != depth+1 || len(impl.UsedGroups(m, got)) > 0 {
					t.Errorf("a uses of %s that is deep below nodes of the kind %d gives %d", name, kind, code)
				}
				if got := impl.UsedGroups(m, oneSchema(deep)); len(got) != 1 {
					t.Errorf("%d uses in deep nodes of the kind %d", len(got), kind)
				}
			}
			if got, code := impl.ExpandModule(aModule(l...)); code != impl.ExModule || len(got) > 0 {
				t.Errorf("a deep module gives %d", code)
			}
		}
		uses := oneSchema(schemaWithin(impl.NdUses, depth))
		if got, code := impl.ExpandNodes(withGroups(aGroup("a")), uses); code != impl.ExFine || len(got) != 0 {
			t.Errorf("deep uses give %d", code)
		}
		if got := impl.UsedGroups(impl.Module{}, uses); len(got) != depth {
			t.Errorf("%d deep uses", len(got))
		}
		m := rowOfGroups(depth, aLeaf("a"))
		if got, code := impl.ExpandNodes(m, usesOfFirst()); code != impl.ExSchema || len(got) > 0 {
			t.Errorf("a long row of groups gives %d", code)
		}
	})
}
