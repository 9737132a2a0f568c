package tests

import (
	"maps"
	"math/rand/v2"
	"reflect"
	"runtime/debug"
	"slices"
	"strings"
	"testing"

	"loop.example/g03013/impl"
)

// tree reads nodes that are written as `name`, `name=value` or `name{..}`, with
// blanks between them.
func tree(s string) []impl.Node {
	lists := [][]impl.Node{{}}
	for _, word := range strings.Fields(strings.NewReplacer("{", " { ", "}", " } ").Replace(s)) {
		last := len(lists) - 1
		switch word {
		case "{":
			lists = append(lists, []impl.Node{})
		case "}":
			above := lists[last-1]
			above[len(above)-1].Kids = lists[last]
			lists = lists[:last]
		default:
			name, value, _ := strings.Cut(word, "=")
			lists[last] = append(lists[last], nodeOf(name, value))
		}
	}
	return lists[0]
}

func nodeOf(name string, value string, kids ...impl.Node) impl.Node {
	return impl.Node{Name: name, Value: value, Kids: kids}
}

// manyNodes are count nodes of one name, with different numbers in order.
func manyNodes(name string, count int) []impl.Node {
	l := []impl.Node{}
	for i := range count {
		l = append(l, nodeOf(name, impl.FormatInt(1000+i)))
	}
	return l
}

func shownTree(l []impl.Node) string {
	return shownThing(reflect.ValueOf(l))
}

func equalTrees(a []impl.Node, b []impl.Node) bool {
	return sameThing(reflect.ValueOf(a), reflect.ValueOf(b))
}

// shuffled is a copy with the nodes in another order at every level.
func shuffled(l []impl.Node, source *rand.Rand) []impl.Node {
	other := slices.Clone(l)
	for i, x := range other {
		other[i].Kids = shuffled(x.Kids, source)
	}
	source.Shuffle(len(other), func(i, j int) { other[i], other[j] = other[j], other[i] })
	return other
}

func countedByRules(l []impl.Node) int {
	return strings.Count(shownByRules(l), "(")
}

func shownByRules(l []impl.Node) string {
	s := ""
	for _, x := range l {
		s += "(" + shownByRules(x.Kids) + ")"
	}
	return s
}

func keyByRules(n impl.Schema, x impl.Node) ([]string, bool) {
	if n.Kind != impl.NdList {
		return []string{x.Value}, true
	}
	values := map[string]string{}
	for _, kid := range slices.Backward(x.Kids) {
		values[kid.Name] = kid.Value
	}
	key := []string{}
	for _, name := range n.Keys {
		value, isThere := values[name]
		if !isThere {
			return nil, false
		}
		key = append(key, value)
	}
	return key, true
}

// A family is nodes side by side, with the data kids that they may be.
type family struct {
	data []impl.Schema
	kids []impl.Node
}

func families(data []impl.Schema, l []impl.Node) []family {
	all := []family{{data, l}}
	for _, x := range l {
		for _, n := range data {
			if n.Name == x.Name {
				all = append(all, families(dataKidsByRules(n.Kids), x.Kids)...)
			}
		}
	}
	return all
}

func (f family) indexOf(x impl.Node) int {
	return slices.IndexFunc(f.data, func(n impl.Schema) bool { return n.Name == x.Name })
}

func (f family) areDataKids() bool {
	return !slices.ContainsFunc(f.kids, func(x impl.Node) bool { return f.indexOf(x) < 0 })
}

// areRightAlone reports whether each node is right by itself.
func (f family) areRightAlone() bool {
	for _, x := range f.kids {
		n := f.data[f.indexOf(x)]
		_, hasKey := keyByRules(n, x)
		isRight := map[int]bool{
			impl.NdLeaf: impl.IsValue(n.Type, x.Value) && len(x.Kids) == 0,
			impl.NdMany: impl.IsValue(n.Type, x.Value) && len(x.Kids) == 0,
			impl.NdList: x.Value == "" && hasKey,
			impl.NdBox:  x.Value == "" && (n.Present || len(x.Kids) > 0),
		}[n.Kind]
		if !isRight {
			return false
		}
	}
	return true
}

// areInOrder holds each node against each one behind it.
func (f family) areInOrder() bool {
	for i, x := range f.kids {
		for _, y := range f.kids[i+1:] {
			n := f.data[f.indexOf(x)]
			key, _ := keyByRules(n, x)
			next, _ := keyByRules(n, y)
			isRow := n.Kind == impl.NdList || n.Kind == impl.NdMany
			isBefore := f.indexOf(x) < f.indexOf(y) || x.Name == y.Name && isRow && keyOf(key) < keyOf(next)
			if !isBefore {
				return false
			}
		}
	}
	return true
}

// isTreeByRules asks one rule after the other of all nodes.
func isTreeByRules(s []impl.Schema, l []impl.Node) bool {
	if !isSchemaByRules(s) || countedByRules(l) > 120 {
		return false
	}
	for _, isRight := range []func(family) bool{family.areDataKids, family.areRightAlone, family.areInOrder} {
		for _, f := range families(dataKidsByRules(s), l) {
			if !isRight(f) {
				return false
			}
		}
	}
	return true
}

// madeByRules goes through the data kids rather than through the nodes.
func madeByRules(s []impl.Schema, l []impl.Node) ([]impl.Node, bool) {
	if !isSchemaByRules(s) || countedByRules(l) > 120 {
		return nil, false
	}
	return kidsByRules(dataKidsByRules(s), l)
}

func kidsByRules(data []impl.Schema, l []impl.Node) ([]impl.Node, bool) {
	made, taken := []impl.Node{}, 0
	for _, n := range data {
		byKey := map[string]impl.Node{}
		for _, x := range l {
			if x.Name != n.Name {
				continue
			}
			taken++
			node, ok := nodeByRules(n, x)
			key, hasKey := keyByRules(n, node)
			if !ok || !hasKey {
				return nil, false
			}
			if n.Kind == impl.NdBox && !n.Present && len(node.Kids) == 0 {
				continue
			}
			if n.Kind == impl.NdBox || n.Kind == impl.NdLeaf {
				key = nil
			}
			if _, isThere := byKey[keyOf(key)]; isThere {
				return nil, false
			}
			byKey[keyOf(key)] = node
		}
		for _, key := range slices.Sorted(maps.Keys(byKey)) {
			made = append(made, byKey[key])
		}
	}
	if taken < len(l) {
		return nil, false
	}
	return made, true
}

func nodeByRules(n impl.Schema, x impl.Node) (impl.Node, bool) {
	if n.Kind == impl.NdLeaf || n.Kind == impl.NdMany {
		value, ok := impl.CanonValue(n.Type, x.Value)
		return nodeOf(x.Name, value), ok && len(x.Kids) == 0
	}
	kids, ok := kidsByRules(dataKidsByRules(n.Kids), x.Kids)
	return nodeOf(x.Name, "", kids...), ok && x.Value == ""
}

func wantCountedTree(t *testing.T, want int, l ...impl.Node) {
	t.Helper()
	given := thingWithSpare(l)
	if got := impl.CountTree(given); got != want || countedByRules(l) != want {
		t.Errorf("CountTree(%.500s) = %d, want %d", shownTree(l), got, want)
	}
	wantUntouchedThing(t, "CountTree", given, l)
}

func wantSameTree(t *testing.T, a []impl.Node, b []impl.Node, want bool) {
	t.Helper()
	for _, pair := range [][2][]impl.Node{{a, b}, {b, a}} {
		first, second := thingWithSpare(pair[0]), thingWithSpare(pair[1])
		if got := impl.SameTree(first, second); got != want {
			t.Errorf("SameTree(%.500s, %.500s) = %t", shownTree(first), shownTree(second), got)
		}
		wantUntouchedThing(t, "SameTree", first, pair[0])
		wantUntouchedThing(t, "SameTree", second, pair[1])
	}
	if equalTrees(a, b) != want {
		t.Errorf("by the rules, SameTree(%.500s, %.500s) would be %t", shownTree(a), shownTree(b), !want)
	}
}

func wantIsTree(t *testing.T, s []impl.Schema, l []impl.Node, want bool) {
	t.Helper()
	schema, given := thingWithSpare(s), thingWithSpare(l)
	if got := impl.IsTree(schema, given); got != want {
		t.Errorf("IsTree(%s, %s) = %t", shownSchemas(s), shownTree(l), got)
	}
	if isTreeByRules(s, l) != want {
		t.Errorf("by the rules, IsTree(%s, %s) would be %t", shownSchemas(s), shownTree(l), !want)
	}
	wantUntouchedThing(t, "IsTree", schema, s)
	wantUntouchedThing(t, "IsTree", given, l)
}

// wantSortResult also holds the memory of two results against the arguments.
func wantSortResult(t *testing.T, s []impl.Schema, l []impl.Node, want []impl.Node, wantOK bool) {
	t.Helper()
	schema, given := thingWithSpare(s), thingWithSpare(l)
	got, ok := impl.SortTree(schema, given)
	again, _ := impl.SortTree(schema, given)
	if ok != wantOK || !equalTrees(got, want) {
		t.Errorf("SortTree(%s, %s) = %s, %t, want %s, %t", shownSchemas(s), shownTree(l), shownTree(got), ok, shownTree(want), wantOK)
	}
	if byRules, ok := madeByRules(s, l); ok != wantOK || !equalTrees(byRules, want) {
		t.Errorf("by the rules, SortTree(%s, %s) would be %s, %t", shownSchemas(s), shownTree(l), shownTree(byRules), ok)
	}
	wantUntouchedThing(t, "SortTree", schema, s)
	wantUntouchedThing(t, "SortTree", given, l)
	wantSeparate(t, "SortTree", schema, given, got, again)
}

// wantMade tries the nodes in other orders as well: they make one tree in any.
func wantMade(t *testing.T, s []impl.Schema, l []impl.Node, want []impl.Node) {
	t.Helper()
	wantSortResult(t, s, l, want, true)
	wantIsTree(t, s, l, equalTrees(l, want))
	wantIsTree(t, s, want, true)
	wantSortResult(t, s, want, want, true)
	wantInAnyOrder(t, s, l, want, true)
	wantInAnyOrder(t, s, want, want, true)
}

func wantInAnyOrder(t *testing.T, s []impl.Schema, l []impl.Node, want []impl.Node, wantOK bool) {
	t.Helper()
	source := rand.New(rand.NewPCG(13, 1))
	for range 4 {
		other := shuffled(l, source)
		if got, ok := impl.SortTree(s, other); ok != wantOK || !equalTrees(got, want) {
			t.Errorf("SortTree(%s, %s) = %s, %t, want %s, %t", shownSchemas(s), shownTree(other), shownTree(got), ok, shownTree(want), wantOK)
		}
		if isTree := wantOK && equalTrees(other, want); impl.IsTree(s, other) != isTree {
			t.Errorf("IsTree(%s, %s) = %t", shownSchemas(s), shownTree(other), !isTree)
		}
	}
}

// wantTree is for nodes that are a tree as they stand.
func wantTree(t *testing.T, s []impl.Schema, l []impl.Node) {
	t.Helper()
	wantMade(t, s, l, l)
}

// wantNotMade is for nodes that make no tree in any order.
func wantNotMade(t *testing.T, s []impl.Schema, l []impl.Node) {
	t.Helper()
	wantSortResult(t, s, l, nil, false)
	wantIsTree(t, s, l, false)
	wantInAnyOrder(t, s, l, nil, false)
}

func wantKey(t *testing.T, n impl.Schema, x impl.Node, want ...string) {
	t.Helper()
	wantKeyResult(t, n, x, want, true)
}

func wantNoKey(t *testing.T, n impl.Schema, x impl.Node) {
	t.Helper()
	wantKeyResult(t, n, x, nil, false)
}

func wantKeyResult(t *testing.T, n impl.Schema, x impl.Node, want []string, wantOK bool) {
	t.Helper()
	schema, node := thingWithSpare(n), thingWithSpare(x)
	got, ok := impl.EntryKey(schema, node)
	again, _ := impl.EntryKey(schema, node)
	if ok != wantOK || !slices.Equal(got, want) {
		t.Errorf("EntryKey(%s, %s) = %.300q, %t, want %.300q, %t", shownNode(n), shownTree([]impl.Node{x}), got, ok, want, wantOK)
	}
	if byRules, ok := keyByRules(n, x); ok != wantOK || !slices.Equal(byRules, want) {
		t.Errorf("by the rules, EntryKey(%s, %s) would be %.300q, %t", shownNode(n), shownTree([]impl.Node{x}), byRules, ok)
	}
	wantUntouchedThing(t, "EntryKey", schema, n)
	wantUntouchedThing(t, "EntryKey", node, x)
	wantSeparate(t, "EntryKey", schema, node, got, again)
}

func TestTreeConstants(t *testing.T) {
	if impl.MaxTree != 120 {
		t.Error(impl.MaxTree)
	}
}

func TestCountTree(t *testing.T) {
	wantCountedTree(t, 0)
	wantCountedTree(t, 0, []impl.Node{}...)
	for s, want := range map[string]int{
		"a": 1, "a b": 2, "a=1 a=1 a=1": 3, "a a a a a a a": 7,
		"a{b}": 2, "a{b c} d": 4, "a b{c}": 3, "a{b{c{d}}}": 4, "a{b{c d} e} f{g}": 7, "a{a{a a} a} a{a{a{a{a{a}}}}} a": 12, "a{b{c} d{e{f}}} g h{i j{k l m{n}}}": 14,
		"a=1{b=2}": 2,
	} {
		wantCountedTree(t, want, tree(s)...)
	}
	// Nothing needs to be right about them.
	wantCountedTree(t, 3, nodeOf("", ""), nodeOf("A b", "\xff", nodeOf("", "", []impl.Node{}...)))
	for count := range 300 {
		wantCountedTree(t, count, manyNodes("a", count)...)
		wantCountedTree(t, count+1, nodeOf("a", "", manyNodes("a", count)...))
		row := []impl.Node{}
		for range count {
			row = []impl.Node{nodeOf("a", "", row...)}
		}
		wantCountedTree(t, count, row...)
		wantCountedTree(t, 3*count+2, nodeOf("a", "", append(row, row...)...), nodeOf("a", "", row...))
	}
	for _, count := range []int{impl.MaxTree - 1, impl.MaxTree, impl.MaxTree + 1, 5000} {
		wantCountedTree(t, count, manyNodes("a", count)...)
	}
}

// differentTrees are trees of which no two are the same.
func differentTrees() [][]impl.Node {
	l := [][]impl.Node{nil, {nodeOf("", "")}, {nodeOf("", "a")}, {nodeOf("", "", nodeOf("", ""))}, {nodeOf("", ""), nodeOf("", "")}, {nodeOf("a ", "")}, {nodeOf("a", " ")}, {nodeOf("a=", "")}, {nodeOf("a", "=")}, {nodeOf("a", "b\xff")}, {nodeOf("a", "b\xfe")}, {nodeOf("A", "b")}, {nodeOf("a", "B")}}
	for _, s := range []string{
		"a", "b", "ab", "a=a", "a=b", "b=a", "a=ab", "aa=b", "a=1", "a=+1", "a=01",
		"a a", "a b", "b a", "a=b a", "a a=b", "a=1 a=2", "a=2 a=1", "a=1 b=2", "a=2 b=1", "b=1 a=2", "a a a", "a a b", "a b a", "b a a",
		"a{a}", "a{b}", "a{a=1}", "a=1{a}", "a=1{a=1}", "b{a}", "a{a a}", "a{a b}", "a{b a}", "a{a} a", "a a{a}", "a{a} a{a}", "a{a} b{a}", "a{a} b", "a b{a}",
		"a{a{a}}", "a{a{b}}", "a{b{a}}", "b{a{a}}", "a{a{a=1}}", "a{a=1{a}}", "a{a{a} a}", "a{a a{a}}", "a{a{a}} a", "a{a{a a}}", "a{a{a b}}", "a{a{b a}}",
		"user{name=ann level=1} user{name=bob level=2}", "user{name=bob level=2} user{name=ann level=1}", "user{name=ann level=2} user{name=bob level=1}", "user{level=1 name=ann} user{name=bob level=2}", "user{name=ann} user{name=bob level=2}", "user{name=ann level=1} user{name=bob}", "user{name=ann level=1}", "user{name=ann level=1} user{name=bob level=2} user", "user{name=ann level=1} user{name=bob level=2 tag=x}", "user{name=ann level=1 tag} user{name=bob level=2}",
		"a{b{c{d{e{f{g{h}}}}}}}", "a{b{c{d{e{f{g{h=1}}}}}}}", "a{b{c{d{e{f{g{i}}}}}}}", "a{b{c{d{e{f{g{h h}}}}}}}", "a{b{c{d{e{f{g h}}}}}}", "a{b{c{d{e{f{g}}}}}} h", "a{b{c{d{e{f{g}}}}}}",
	} {
		l = append(l, tree(s))
	}
	return l
}

func TestSameTree(t *testing.T) {
	all := differentTrees()
	for i, a := range all {
		for j, b := range all {
			wantSameTree(t, a, b, i == j)
			wantSameTree(t, []impl.Node{nodeOf("x", ""), nodeOf("y", "", a...)}, []impl.Node{nodeOf("x", ""), nodeOf("y", "", b...)}, i == j)
		}
		if !impl.SameTree(a, a) || !impl.SameTree(a, thingWithSpare(a)) {
			t.Errorf("%s is not the same as itself", shownTree(a))
		}
	}
	// A list of kids that is empty, and one that is nil.
	none, empty := []impl.Node{{Name: "a"}, {Name: "b", Kids: []impl.Node{{Name: "c"}}}}, []impl.Node{{Name: "a", Kids: []impl.Node{}}, {Name: "b", Kids: []impl.Node{{Name: "c", Kids: []impl.Node{}}}}}
	wantSameTree(t, none, empty, true)
	wantSameTree(t, nil, []impl.Node{}, true)
	wantSameTree(t, nil, nil, true)
	if impl.SameTree(nil, none) || impl.SameTree([]impl.Node{}, empty) || !impl.SameTree(none, empty) || !impl.SameTree(empty, none) {
		t.Error("wrong about empty lists")
	}
}

// Trees that differ at just one place, wherever this is.
func TestTreesThatDifferAtOnePlace(t *testing.T) {
	l := tree("mode=on user{name=ann level=1 tag=x tag=y home{door=1 room{bed=true chair=1}}} user{name=bob level=2 more{note=n item{id=1} item{id=2 level=3}}} word=a word=b")
	count := countedByRules(l)
	changes := map[string]func(*impl.Node){
		"name": func(x *impl.Node) { x.Name += "x" }, "no name": func(x *impl.Node) { x.Name = "" }, "value": func(x *impl.Node) { x.Value += "x" }, "first kid": func(x *impl.Node) { x.Kids = append([]impl.Node{{}}, x.Kids...) }, "last kid": func(x *impl.Node) { x.Kids = append(slices.Clone(x.Kids), nodeOf("z", "")) },
		"swapped": func(x *impl.Node) { x.Name, x.Value = x.Value, x.Name },
	}
	for name, change := range changes {
		for i := range count {
			other := thingWithSpare(l)
			change(everyTreeNode(other)[i])
			wantSameTree(t, l, other, false)
			if t.Failed() {
				t.Fatalf("%s of the node %d", name, i)
			}
		}
	}
	for i := range count {
		for _, kids := range []int{0, 1} {
			other := thingWithSpare(l)
			x := everyTreeNode(other)[i]
			if len(x.Kids) > 1 {
				x.Kids = append(x.Kids[:kids], x.Kids[kids+1:]...)
				wantSameTree(t, l, other, false)
				x.Kids = nil
				wantSameTree(t, l, other, false)
			}
		}
		other := thingWithSpare(l)
		x := everyTreeNode(other)[i]
		if len(x.Kids) > 1 {
			slices.Reverse(x.Kids)
			wantSameTree(t, l, other, false)
		}
	}
	wantSameTree(t, l, thingWithSpare(l), true)
	wantSameTree(t, l, l[:len(l)-1], false)
	wantSameTree(t, l, l[1:], false)
	// Lists of kids that begin in the same memory, but end elsewhere.
	a, b := tree("a=1 a=2 a=3"), tree("a=1 a=2 b=3")
	for i := range 4 {
		for j := range 4 {
			first, second := []impl.Node{nodeOf("a", "", a[:i]...), nodeOf("a", "", a[:j]...)}, []impl.Node{nodeOf("a", "", b[:i]...), nodeOf("a", "", b[:j]...)}
			if got := impl.SameTree(first, second); got != (i < 3 && j < 3) {
				t.Errorf("SameTree(%s, %s) = %t", shownTree(first), shownTree(second), got)
			}
		}
	}
	// The last node of all, beyond any limit.
	a, b = manyNodes("a", 500), manyNodes("a", 500)
	for _, wrap := range []func([]impl.Node) []impl.Node{
		func(l []impl.Node) []impl.Node { return l },
		func(l []impl.Node) []impl.Node { return []impl.Node{nodeOf("b", ""), nodeOf("c", "", l...)} },
		func(l []impl.Node) []impl.Node {
			return append(slices.Repeat(l[:1], 300), nodeOf("d", "", nodeOf("c", "", l...)))
		},
	} {
		a, b = wrap(a), wrap(b)
		wantSameTree(t, a, b, true)
		other := thingWithSpare(b)
		all := everyTreeNode(other)
		all[len(all)-1].Value = "1"
		wantSameTree(t, a, other, false)
	}
}

// everyTreeNode are the nodes of l at every depth, to be changed where they
// stand.
func everyTreeNode(l []impl.Node) []*impl.Node {
	all := []*impl.Node{}
	for i := range l {
		all = append(all, &l[i])
		all = append(all, everyTreeNode(l[i].Kids)...)
	}
	return all
}

func TestTheEmptyTree(t *testing.T) {
	for _, s := range [][]impl.Schema{nil, {}, village(t), {aBox("a")}, {aChoice("a")}, leaves(impl.MaxNodes)} {
		wantTree(t, s, nil)
		wantTree(t, s, []impl.Node{})
	}
	wantNotMade(t, nil, tree("a"))
	wantNotMade(t, nil, []impl.Node{{}})
	wantNotMade(t, oneSchema(aChoice("a", aCase("b"))), tree("a"))
	wantMade(t, oneSchema(aBox("a")), tree("a"), nil)
}

// schemasThatAreNot have a leaf `a`, but something about them is wrong.
func schemasThatAreNot() [][]impl.Schema {
	a := aLeaf("a")
	given, withKids := withWhen(aGiven("b", anInt(), "1")), aLeaf("b")
	withKids.Kids = oneSchema(aLeaf("c"))
	fixed := aBox("b", aLeaf("c"))
	fixed.Fixed = true
	deep := []impl.Schema{a}
	for range impl.MaxDeep {
		deep = []impl.Schema{a, aBox("b", deep...)}
	}
	return [][]impl.Schema{
		{a, a}, {a, aLeaf("")}, {a, aLeaf("B")}, {a, aUses("b")}, {a, {Name: "b"}}, {a, {Kind: 8, Name: "b"}}, {a, aLeafOf("b", impl.Type{})}, {a, aLeafOf("b", anEnum())}, {a, aCase("b")}, {a, aChoice("b", aLeaf("c"))}, {a, aChoice("b", aCase("c", a))},
		{a, aListOf(nil, aLeaf("key"))}, {a, aListOf([]string{"key"})}, {a, aListOf([]string{"key", "key"}, aLeaf("key"))}, {a, aListOf([]string{"key"}, aMany("key"))}, {a, aListOf([]string{"key"}, aLeafOf("key", aFlag()))}, {a, aListOf([]string{"key"}, aChoice("x", aCase("y", aLeaf("key"))))}, {a, aListOf([]string{"n0", "n1", "n2", "n3"}, leaves(4)...)},
		{a, given}, {a, withKids}, {a, fixed}, deep, append(leaves(impl.MaxNodes), a), {a, aBox("b", leaves(impl.MaxNodes-1)...)},
	}
}

func TestTreesOfSchemasThatAreNotValid(t *testing.T) {
	for _, s := range schemasThatAreNot() {
		for _, l := range []string{"", "a=1", "list{key=1}", "a=1 list{key=1}", "b", "a=1 b{c=1}"} {
			wantNotMade(t, s, tree(l))
		}
	}
	for _, s := range [][]impl.Schema{{aLeaf("a"), aLeaf("b")}, append(leaves(impl.MaxNodes-1), aLeaf("a"))} {
		wantTree(t, s, tree("a=1"))
	}
	for i, s := range endlessSchemas() {
		if got, ok := impl.SortTree(s, tree("a")); ok || len(got) > 0 || impl.IsTree(s, nil) || impl.IsTree(s, tree("a")) {
			t.Errorf("there is a tree of the schema %d, which has no end", i)
		}
	}
}

// The conditions of a schema, its limits and its marks are not asked for.
func TestTreesAreNotValidated(t *testing.T) {
	s := mustReadNodes(t, `
leaf a { type int; needed; when b = 1; must 1 = 2; }
leaf b { type ref "/none"; fixed; }
leaf c { type int; default "7"; }
many d { type int; min 2; max 3; when 0; }
list e { key f; unique g; min 2; max 2; leaf f { type int; } leaf g { type int; } }
choice h { needed; case i { when 0; leaf j { type int; } } case k { leaf l { type int; } box m { when 0; leaf n { type int; needed; } } } }
`)
	for _, l := range []string{"", "a=1", "b=x", "c=7", "c=8", "d=1", "d=1 d=2 d=3 d=4", "e{f=1}", "e{f=1 g=1} e{f=2 g=1} e{f=3 g=1}", "j=1", "l=1", "j=1 l=1", "j=1 l=1 m{n=1}", "a=1 b=x c=7 d=1 e{f=1 g=1} e{f=2 g=1} j=1 l=1 m{n=1}"} {
		wantTree(t, s, tree(l))
	}
	wantNotMade(t, s, tree("m{n=x}"))
	wantMade(t, s, tree("m"), nil)
}

func TestTreesOfTheVillage(t *testing.T) {
	s := village(t)
	for _, l := range []string{
		"mode=on", "mode=off", "on", "chief=x", "chiefs=a chiefs=b", "word=a", "word", "word word=a word=b", "vlan=-7", "empty", "mode=on empty", "pool{size=1}", "port=1 port=10 port=2", "way{name=a to=b}", "way{name to=b}",
		"user{name=ann}", "user{name=ann} user{name=bob}", "user{name=ann level=3} user{name=bob}", "user{name=ann level=0 tag=x tag=y vlan=1 more{note=n} home}", "user{name=ann home{door=1}}", "user{name=ann home{room{bed=true}}}", "user{name=ann home{door=1 room{chair=1 chair=2}}}", "user{name=ann more{item{id=1}}}", "user{name=ann more{item{id=1 level=true} item{id=2 level=false}}}", "user{name=ann tag}",
		"mode=on user{name=ann level=-7 vlan=1} user{name=bob tag=x more{note item{id=3 level=true}} home{door=1 room{bed=false chair=7}}} word=a on chief=x chiefs=a chiefs=b vlan=1 pool{size=1} port=1 port=2 way{name=a to=b} way{name=a to=c} empty",
	} {
		wantTree(t, s, tree(l))
	}
	for l, want := range map[string]string{
		// Nodes out of order.
		"on mode=on": "mode=on on", "empty mode=on": "mode=on empty", "user{name=ann} mode=on": "mode=on user{name=ann}", "word=b word=a": "word=a word=b", "word=a user{name=a} word=b": "user{name=a} word=a word=b", "user{name=b} user{name=a}": "user{name=a} user{name=b}", "user{level=1 name=a}": "user{name=a level=1}", "user{name=a home{room{chair=2 chair=1}}}": "user{name=a home{room{chair=1 chair=2}}}", "way{to=a name=b}": "way{name=b to=a}", "user{name=a vlan=1 level=2}": "user{name=a level=2 vlan=1}", "empty pool{size=1} vlan=2": "vlan=2 pool{size=1} empty",
		// Values that are not canonical.
		"vlan=+3": "vlan=3", "vlan=007": "vlan=7", "vlan=-0": "vlan=0", "user{name=a home{room{bed=1}}}": "user{name=a home{room{bed=true}}}", "user{name=a home{room{bed=0}}}": "user{name=a home{room{bed=false}}}", "user{name=a more{item{id=+1}}}": "user{name=a more{item{id=1}}}", "port=+2 port=010": "port=10 port=2", "port=10 port=+2": "port=10 port=2", "user{name=a more{item{id=+2} item{id=010}}}": "user{name=a more{item{id=10} item{id=2}}}",
		// Boxes that do not exist by themselves.
		"pool": "", "pool pool": "", "pool pool pool": "", "pool pool{size=1}": "pool{size=1}", "pool pool{size=1} pool": "pool{size=1}", "mode=on pool": "mode=on", "user{name=a more}": "user{name=a}", "user{name=a more more}": "user{name=a}", "user{name=a home{room}}": "user{name=a home}", "user{name=a home{room room} more}": "user{name=a home}",
	} {
		wantMade(t, s, tree(l), tree(want))
	}
	for _, l := range []string{
		// None of the data kids: choices and cases, nodes of another level, nothing.
		"use", "use{vlan=1}", "flat", "flat{vlan=1}", "use{flat{vlan=1}}", "deep", "inner", "in", "in{pool{size=1}}", "out", "name=a", "level=1", "size=1", "user{name=a mode=on}", "user{name=a user{name=a}}", "user{name=a door=1}", "user{name=a sort}", "user{name=a sort{plain{vlan=1}}}", "user{name=a plain{vlan=1}}", "user{name=a rich}", "user{name=a home{bed=true}}", "user{name=a home{name=a}}", "none", "none=1", "mode=on none", "Mode=on", "mod=on", "modes=on", "user{name=a none}", "user{name=a home{none}}", "pool{none}", "pool{size=1 none=1}", "empty{none}", "empty{empty}", "pool{pool}", "pool{pool{size=1}}",
		// Values of another type.
		"mode", "mode=auto", "mode=ON", "vlan", "vlan=x", "vlan=1.5", "vlan=1000000001", "on=on", "on=true", "chief", "chiefs", "chiefs=a chiefs", "port", "port=x", "port=1 port=x", "user{name}", "user{name=abcdefghi}", "user{name=a level=x}", "user{name=a home{room{bed=yes}}}", "user{name=a home{room{bed}}}", "user{name=a more{item{id=x}}}", "way{name=a to}",
		// Values of boxes and entries.
		"empty=1", "pool=1", "pool=1{size=1}", "user=a{name=a}", "user{name=a home=1}", "user{name=a home{room=1{bed=true}}}", "user{name=a home{room=1}}", "user{name=a more=1{item{id=1}}}", "user{name=a more{item=1{id=1}}}", "way=a{name=a to=b}", "pool pool=1",
		// Kids of leaves and of nodes of a many.
		"mode=on{mode=on}", "mode=on{none}", "on{on}", "vlan=1{vlan=1}", "word=a{word=a}", "word{word}", "port=1{port=1}", "user{name=a{name=a}}", "user{name=a level=1{level=1}}", "user{name=a tag=x{tag=y}}", "user{name=a home{room{chair=1{chair=1}}}}", "word=a word=b{none}",
		// Entries without one of their keys.
		"user", "user{level=1}", "user{tag=x}", "user{name=a} user", "user{name=a more{item}}", "user{name=a more{item{level=true}}}", "way", "way{name=a}", "way{to=b}", "way{name=a to=b} way{name=b}", "user{more{note=a}}", "user{home{door=1}}",
		// Two nodes at one place.
		"mode=on mode=on", "mode=on mode=off", "on on", "empty empty", "pool{size=1} pool{size=1}", "pool{size=1} pool{size=2}", "word=a word=a", "word word", "chiefs=a chiefs=b chiefs=a", "user{name=a} user{name=a}", "user{name=a level=1} user{name=a level=2}", "user{name=a} user{name=b} user{name=a}", "user{name=a name=a}", "user{name=a name=b}", "user{name=a level=1 level=1}", "user{name=a home home}", "user{name=a home{door=1} home}", "user{name=a home{room{bed=true} room{bed=true}}}", "user{name=a more{item{id=1} item{id=1}}}", "way{name=a to=b} way{name=a to=b}", "user{name=a tag=x tag=x}",
		// The same once they are canonical.
		"port=1 port=+1", "port=1 port=2 port=01", "port=0 port=-0", "user{name=a home{room{chair=7 chair=007}}}", "user{name=a more{item{id=1} item{id=+1}}}", "user{name=a more{item{id=1 level=true} item{id=1 level=false}}}", "vlan=1 vlan=+1",
	} {
		wantNotMade(t, s, tree(l))
	}
}

// Each node that is wrong alone, at every depth, and behind others that are right.
func TestOneWrongTreeNodeAnywhere(t *testing.T) {
	const kids = `leaf a { type int; } many b { type int; } box c { leaf d { type bool; } } list e { key f; leaf f { type int; } leaf g { type int; } } choice h { case i { leaf j { type int; } } } box k { present; leaf l { type int; } }`
	homes := map[string]string{kids: "*", "box up { " + kids + " }": "up{*}", "list up { key x; leaf x { type int; } " + kids + " }": "up{x=1 *}", "list up { key x; leaf x { type int; } " + kids + " leaf y { type int; } } leaf z { type int; }": "up{x=1 a=1} up{x=2 *} z=1", "box up { present; box top { " + kids + " } }": "up{top{*}}", "choice o { case p { box up { choice m { case n { " + kids + " } } } } }": "up{*}"}
	for nodes, home := range homes {
		s := mustReadNodes(t, nodes)
		inside := func(l string) []impl.Node { return tree(strings.ReplaceAll(home, "*", l)) }
		wantTree(t, s, inside("a=1 b=1 b=2 c{d=true} e{f=1} e{f=2 g=3} j=1 k{l=1}"))
		wantTree(t, s, inside("a=1 k"))
		wantMade(t, s, inside("c a=+1 c{d=1} c"), inside("a=1 c{d=true}"))
		wantMade(t, s, inside("k e{g=1 f=07} e{f=007000} b=1 e{f=10} j=-0"), inside("b=1 e{f=10} e{f=7 g=1} e{f=7000} j=0 k"))
		for _, wrong := range []string{"a=x", "a", "a=1{a=1}", "b=x", "b=3{b=3}", "b", "c=1", "c{d=x}", "c{d}", "c{a=1}", "c=1{d=true}", "e", "e{g=1}", "e=1{f=9}", "e{f=9 a=1}", "e{f=x}", "e{f=9 f=9}", "h", "i", "h{j=1}", "i{j=1}", "j", "j=1{j=1}", "k=1", "k{k}", "n", "C{d=true}", "c{d=true} c{d=true}", "k k", "k{l=1} k", "a=1 a=1", "b=9 b=9", "b=9 b=+9", "e{f=9} e{f=9}", "e{f=9 g=1} e{f=09 g=2}"} {
			wantNotMade(t, s, inside(wrong))
			wantNotMade(t, s, inside("b=1 e{f=1} "+wrong))
		}
	}
}

// The data kids of choices stand where the choice does.
func TestTheOrderOfDataKids(t *testing.T) {
	s := mustReadNodes(t, "leaf z { type int; } choice c { case d { leaf m { type int; } choice e { case f { leaf a { type int; } } case g { leaf y { type int; } } } leaf b { type int; } } case h { leaf k { type int; } } } leaf c2 { type int; } choice n { case o { leaf x { type int; } } } leaf w { type int; }")
	order := []string{"z=1", "m=1", "a=1", "y=1", "b=1", "k=1", "c2=1", "x=1", "w=1"}
	all := strings.Join(order, " ")
	wantTree(t, s, tree(all))
	for i := range order {
		for j := range i {
			wantTree(t, s, tree(order[j]+" "+order[i]))
			wantMade(t, s, tree(order[i]+" "+order[j]), tree(order[j]+" "+order[i]))
			other := slices.Clone(order)
			other[i], other[j] = other[j], other[i]
			wantMade(t, s, tree(strings.Join(other, " ")), tree(all))
		}
	}
	// Names and kinds do not count, just the order of the schema.
	kinds := mustReadNodes(t, "many d { type int; } box c { present; } list b { key k; leaf k { type int; } } leaf a { type int; }")
	wantTree(t, kinds, tree("d=1 d=2 c b{k=1} b{k=2} a=1"))
	wantMade(t, kinds, tree("a=1 b{k=2} c d=2 b{k=1} d=1"), tree("d=1 d=2 c b{k=1} b{k=2} a=1"))
	wantMade(t, kinds, tree("d=1 b{k=1} d=2 b{k=2}"), tree("d=1 d=2 b{k=1} b{k=2}"))
	// The same names in another order.
	for _, names := range [][]string{{"a", "b", "c"}, {"c", "b", "a"}, {"b", "c", "a"}} {
		s := []impl.Schema{aLeaf(names[0]), aLeaf(names[1]), aLeaf(names[2])}
		l := []impl.Node{nodeOf(names[0], "1"), nodeOf(names[1], "1"), nodeOf(names[2], "1")}
		wantTree(t, s, l)
		wantIsTree(t, s, []impl.Node{l[1], l[0], l[2]}, false)
		wantIsTree(t, s, []impl.Node{l[0], l[2], l[1]}, false)
	}
}

// inRow are nodes with these values, one for each node.
func inRow(values ...string) []impl.Node {
	l := []impl.Node{}
	for _, s := range values {
		l = append(l, nodeOf("m", s))
	}
	return l
}

// entriesOf have leaves a, b and so on, with the values that stand between `/`.
func entriesOf(rows ...string) []impl.Node {
	l := []impl.Node{}
	for _, row := range rows {
		kids := []impl.Node{}
		for i, s := range strings.Split(row, "/") {
			kids = append(kids, nodeOf(string(rune('a'+i)), s))
		}
		l = append(l, nodeOf("list", "", kids...))
	}
	return l
}

// rowOf is the schema of inRow.
func rowOf(ty impl.Type) []impl.Schema {
	n := aMany("m")
	n.Type = ty
	return oneSchema(n)
}

// entriesSchema has as many leaves of a type as entriesOf with these rows.
func entriesSchema(ty impl.Type, count int, keys ...string) []impl.Schema {
	kids := []impl.Schema{}
	for i := range count {
		kids = append(kids, aLeafOf(string(rune('a'+i)), ty))
	}
	return oneSchema(aListOf(keys, kids...))
}

func TestValuesInOrder(t *testing.T) {
	for _, c := range []struct {
		ty     impl.Type
		values []string
	}{
		{anInt(), []string{"-1", "-10", "-2", "0", "1", "10", "100", "2", "21", "3"}},
		{aText(""), []string{"", " ", " a", "!", "0", "10", "9", "A", "B", "a", "a ", "a a", "aa", "aaa", "ab", "abc", "abcd", "b", "~"}},
		{aBool(), []string{"false", "true"}},
		{anEnum("on", "off", "auto"), []string{"auto", "off", "on"}},
		{aRef("/a"), []string{" ", "a", "ab", "b"}},
		{aFlag(), []string{""}},
	} {
		wantTree(t, rowOf(c.ty), inRow(c.values...))
		backward := slices.Clone(c.values)
		slices.Reverse(backward)
		wantMade(t, rowOf(c.ty), inRow(backward...), inRow(c.values...))
		for i := range c.values {
			for j := range c.values {
				pair := inRow(c.values[i], c.values[j])
				switch {
				case i < j:
					wantTree(t, rowOf(c.ty), pair)
				case i == j:
					wantNotMade(t, rowOf(c.ty), pair)
				default:
					wantMade(t, rowOf(c.ty), pair, inRow(c.values[j], c.values[i]))
				}
			}
		}
		if c.ty.Kind != impl.TyFlag {
			s := entriesSchema(c.ty, 1, "a")
			wantTree(t, s, entriesOf(c.values...))
			wantMade(t, s, entriesOf(backward...), entriesOf(c.values...))
			wantNotMade(t, s, append(entriesOf(c.values...), entriesOf(c.values[0])...))
			wantNotMade(t, s, append(entriesOf(c.values...), entriesOf(backward[0])...))
		}
	}
}

func TestEntriesInOrder(t *testing.T) {
	word := aText("")
	// Each of these is in order, by two keys.
	for _, rows := range [][]string{{"a/a", "a/b"}, {"a/b", "b/a"}, {"a/z", "ab/a"}, {"/b", "a/"}, {"a/", "a/a"}, {"a/b", "a/bc"}, {"a/bc", "ab/c"}, {"ab/c", "abc/"}, {" / ", " a/"}, {"a/ ", "a /"}, {"a/1", "a/10", "a/2", "b/1"}} {
		backward := slices.Clone(rows)
		slices.Reverse(backward)
		wantTree(t, entriesSchema(word, 2, "a", "b"), entriesOf(rows...))
		wantMade(t, entriesSchema(word, 2, "a", "b"), entriesOf(backward...), entriesOf(rows...))
	}
	// The order of Keys is another one than that of the kids.
	s := entriesSchema(word, 2, "b", "a")
	wantTree(t, s, entriesOf("b/a", "a/b"))
	wantMade(t, s, entriesOf("a/b", "b/a"), entriesOf("b/a", "a/b"))
	wantTree(t, s, entriesOf("a/b", "b/b", "a/c"))
	wantMade(t, s, entriesOf("a/c", "b/b", "a/b"), entriesOf("a/b", "b/b", "a/c"))
	wantMade(t, entriesSchema(word, 2, "a", "b"), entriesOf("a/b", "b/b", "a/c"), entriesOf("a/b", "a/c", "b/b"))
	// Just the leaves that are named count.
	wantNotMade(t, entriesSchema(word, 2, "a"), entriesOf("x/a", "x/b"))
	wantNotMade(t, entriesSchema(word, 2, "b"), entriesOf("a/x", "b/x"))
	wantTree(t, entriesSchema(word, 2, "b"), entriesOf("b/x", "a/y"))
	wantTree(t, entriesSchema(word, 3, "a", "c"), entriesOf("a/z/a", "a/y/b"))
	wantNotMade(t, entriesSchema(word, 3, "a", "c"), entriesOf("a/z/a", "a/y/a"))
	// Each of three counts.
	three := entriesSchema(word, 3, "a", "b", "c")
	wantTree(t, three, entriesOf("a/a/a", "a/a/b", "a/b/a", "b/a/a"))
	wantMade(t, three, entriesOf("b/a/a", "a/b/a", "a/a/b", "a/a/a"), entriesOf("a/a/a", "a/a/b", "a/b/a", "b/a/a"))
	wantNotMade(t, three, entriesOf("a/a/a", "a/a/b", "a/b/a", "a/a/b"))
	wantMade(t, entriesSchema(word, 3, "c", "b", "a"), entriesOf("a/a/b", "a/b/a", "b/a/a", "a/a/a"), entriesOf("a/a/a", "b/a/a", "a/b/a", "a/a/b"))
	wantNotMade(t, three, entriesOf("a/b"))
	wantNotMade(t, entriesSchema(word, 3, "c"), entriesOf("a/b"))
	wantTree(t, entriesSchema(word, 3, "b"), entriesOf("a/b"))
	// Two lists side by side have keys of their own.
	lists := mustReadNodes(t, "list x { key k; leaf k { type int; } } list y { key k; leaf k { type int; } } box z { list x { key k; leaf k { type int; } } }")
	wantTree(t, lists, tree("x{k=1} x{k=2} y{k=1} y{k=2} z{x{k=1}}"))
	wantMade(t, lists, tree("y{k=1} x{k=2} y{k=0} x{k=1}"), tree("x{k=1} x{k=2} y{k=0} y{k=1}"))
}

// Keys are compared once they are canonical, and so are values.
func TestKeysBecomeCanonical(t *testing.T) {
	number := entriesSchema(anInt(), 2, "a")
	wantMade(t, number, entriesOf("+2/1", "10/1"), entriesOf("10/1", "2/1"))
	wantMade(t, number, entriesOf("10/1", "2/+1"), entriesOf("10/1", "2/1"))
	wantMade(t, number, entriesOf("3/07", "002/08"), entriesOf("2/8", "3/7"))
	wantNotMade(t, number, entriesOf("2/1", "002/1"))
	wantNotMade(t, number, entriesOf("2/1", "+2/2"))
	wantNotMade(t, number, entriesOf("+2/1", "3/1", "2/2"))
	truth := entriesSchema(aBool(), 2, "a", "b")
	wantMade(t, truth, entriesOf("1/1", "1/0", "0/1", "0/0"), entriesOf("false/false", "false/true", "true/false", "true/true"))
	wantNotMade(t, truth, entriesOf("1/true", "true/1"))
	wantNotMade(t, truth, entriesOf("0/0", "false/1", "false/0"))
	wantIsTree(t, truth, entriesOf("false/0"), false)
	wantMade(t, rowOf(anInt()), inRow("+3", "-0", "010", "2", "-07"), inRow("-7", "0", "10", "2", "3"))
	wantNotMade(t, rowOf(anInt()), inRow("-0", "+0"))
	wantMade(t, rowOf(aBool()), inRow("1", "0"), inRow("false", "true"))
	wantNotMade(t, rowOf(aBool()), inRow("1", "true"))
	// What is written in another way is another text.
	wantTree(t, rowOf(aText("")), inRow("+1", "01", "1", "true"))
	wantTree(t, entriesSchema(aText(""), 1, "a"), entriesOf("+1", "01", "1", "true"))
}

func TestValuesOfEveryType(t *testing.T) {
	right, other, wrong := 0, 0, 0
	for _, ty := range someTypes() {
		s := []impl.Schema{aLeaf("first"), aLeafOf("leaf", ty), aBox("box", rowOf(ty)...)}
		for _, v := range mixedValues() {
			l, inside := []impl.Node{nodeOf("leaf", v)}, []impl.Node{nodeOf("box", "", nodeOf("m", v))}
			canon, ok := impl.CanonValue(ty, v)
			if !ok {
				wrong++
				wantSortResult(t, s, l, nil, false)
				wantSortResult(t, s, inside, nil, false)
			} else {
				if right++; v != canon {
					other++
				}
				wantSortResult(t, s, l, []impl.Node{nodeOf("leaf", canon)}, true)
				wantSortResult(t, s, inside, []impl.Node{nodeOf("box", "", nodeOf("m", canon))}, true)
			}
			wantIsTree(t, s, l, ok && v == canon)
			wantIsTree(t, s, inside, ok && v == canon)
		}
	}
	if right < 300 || other < 50 || wrong < 300 {
		t.Error(right, other, wrong)
	}
}

func TestBoxesWithoutKids(t *testing.T) {
	s := mustReadNodes(t, "leaf a { type int; } box b { box c { box d { leaf e { type int; } } box f { present; } } many g { type int; } } box h { present; box i { leaf j { type int; } } } list k { key l; leaf l { type int; } box m { box n { leaf o { type int; } } } }")
	for l, want := range map[string]string{
		"b": "", "b{c}": "", "b{c{d}}": "", "b{c c}": "", "b{c{d} c{d d}} b": "", "a=1 b{c{d}}": "a=1", "b{c{d} g=1}": "b{g=1}", "b{c{d{e=1}}}": "b{c{d{e=1}}}", "b{c{d{e=1} d} c} b{c}": "b{c{d{e=1}}}", "b{c{d f}}": "b{c{f}}", "b{c{f}} b{c{d}} b": "b{c{f}}", "b{c{d}} b{g=1 c}": "b{g=1}",
		"h": "h", "h{i}": "h", "h{i i}": "h", "h{i{j=1} i}": "h{i{j=1}}", "h b": "h", "h{i} b{c}": "h",
		"k{l=1 m}": "k{l=1}", "k{m{n} l=+1}": "k{l=1}", "k{l=1 m{n} m{n n}}": "k{l=1}", "k{l=2 m} k{l=1 m{n{o=1}} m}": "k{l=1 m{n{o=1}}} k{l=2}",
	} {
		wantMade(t, s, tree(l), tree(want))
	}
	for _, l := range []string{
		"h h", "h{i} h", "h{i{j=1}} h", "b{c{f}} b{c{f}}", "b{c{f}} b{g=1}", "b{c{f} c{f}}", "b{c{f f}}", "b{c{d{e=1}} c{f}}",
		// What will be left out must be right as well.
		"b=1", "b{c=1}", "b{c{d=1}}", "b{c{d} x}", "b{c{d{x}}}", "b{c{d{d}}}", "x b", "a b", "k{l=1 m=1}", "k{m}", "k{l=1 m{m}}", "h{i=1}",
	} {
		wantNotMade(t, s, tree(l))
	}
}

func TestAsManyNodesAsThereMayBe(t *testing.T) {
	s := mustReadNodes(t, "many a { type int; } box b { many c { type int; } box d { box e { many f { type int; } } } } list g { key h; leaf h { type int; } } box i { leaf j { type int; } }")
	within := func(count int) []impl.Node {
		return []impl.Node{nodeOf("b", "", nodeOf("d", "", nodeOf("e", "", manyNodes("f", count-3)...)))}
	}
	entries := func(count int) []impl.Node {
		l := []impl.Node{}
		for _, x := range manyNodes("h", count) {
			l = append(l, nodeOf("g", "", x))
		}
		return l
	}
	for _, make := range []func(count int) []impl.Node{
		func(count int) []impl.Node { return manyNodes("a", count) },
		func(count int) []impl.Node { return []impl.Node{nodeOf("b", "", manyNodes("c", count-1)...)} },
		within,
		func(count int) []impl.Node { return append(manyNodes("a", 60), within(count-60)...) },
		func(count int) []impl.Node { return append(manyNodes("a", count-30), within(30)...) },
		func(count int) []impl.Node { return append(manyNodes("a", count-100), entries(50)...) },
		func(count int) []impl.Node {
			return append(append(manyNodes("a", count-12), entries(5)...), tree("i{j=1}")...)
		},
	} {
		for count := impl.MaxTree - 2; count <= impl.MaxTree+3; count++ {
			l := make(count)
			if countedByRules(l) != count {
				t.Fatalf("%d nodes are not %d", countedByRules(l), count)
			}
			if count <= impl.MaxTree {
				wantTree(t, s, l)
			} else {
				wantNotMade(t, s, l)
			}
			// All nodes count, also those that are left out.
			if count < impl.MaxTree {
				wantMade(t, s, append(tree("i"), l...), l)
			} else {
				wantNotMade(t, s, append(tree("i"), l...))
			}
		}
	}
	for _, count := range []int{impl.MaxTree, impl.MaxTree + 1} {
		wantSortResult(t, s, slices.Repeat(tree("i"), count), nil, count <= impl.MaxTree)
		wantSortResult(t, s, slices.Repeat(tree("b{d{e}} i"), count/4), nil, true)
		wantSortResult(t, s, append(slices.Repeat(tree("b{d{e}}"), 40), slices.Repeat(tree("i"), count-impl.MaxTree)...), nil, count <= impl.MaxTree)
	}
	// In the worst order: the ones with most kids last or first.
	wantTree(t, s, append(append(manyNodes("a", 20), within(20)...), entries(40)...))
	wantNotMade(t, s, append(append(manyNodes("a", 21), within(20)...), entries(40)...))
	for _, size := range []int{5000, 100000} {
		wantSortResult(t, oneSchema(aMany("a")), manyNodes("a", 120), manyNodes("a", 120), true)
		if got, ok := impl.SortTree(s, manyNodes("a", size)); ok || len(got) > 0 || impl.IsTree(s, manyNodes("a", size)) {
			t.Errorf("%d nodes are a tree", size)
		}
	}
}

// As deep as a schema may be.
func TestDeepTrees(t *testing.T) {
	s, l := oneSchema(aLeaf("a")), tree("a=1")
	for depth := 2; depth <= impl.MaxDeep; depth++ {
		below := l
		s, l = []impl.Schema{aMany("m"), aBox("a", s...)}, []impl.Node{nodeOf("a", "", l...)}
		wantTree(t, s, l)
		wantNotMade(t, s, below)
		wantNotMade(t, s, []impl.Node{nodeOf("a", "", l...)})
	}
	list, entries := []impl.Schema{aLeaf("key")}, tree("key=1")
	for range impl.MaxDeep - 1 {
		list, entries = []impl.Schema{aLeaf("key"), aList("x", list[1:]...)}, []impl.Node{nodeOf("key", "1"), nodeOf("x", "", entries...)}
		wantTree(t, list, entries)
		double := append(slices.Clone(entries), nodeOf("x", "", nodeOf("key", "0")))
		wantMade(t, list, double, []impl.Node{double[0], double[2], double[1]})
		wantNotMade(t, list, append(double, nodeOf("x", "", nodeOf("key", "+1"))))
	}
}

// permutations calls with the nodes in every order.
func permutations(l []impl.Node, call func([]impl.Node)) {
	if len(l) < 2 {
		call(l)
		return
	}
	for i := range l {
		rest := append(slices.Clone(l[:i]), l[i+1:]...)
		permutations(rest, func(other []impl.Node) { call(append([]impl.Node{l[i]}, other...)) })
	}
}

func TestNodesInEveryOrder(t *testing.T) {
	s := village(t)
	for _, text := range []string{"mode=on user{name=ann} user{name=bob} word=a word=b vlan=1", "port=1 port=10 port=2 way{name=a to=b} way{name=a to=c} way{name=b to=a}"} {
		want := tree(text)
		count := 0
		permutations(want, func(l []impl.Node) {
			count++
			got, ok := impl.SortTree(s, l)
			if !ok || !equalTrees(got, want) || impl.IsTree(s, l) != equalTrees(l, want) {
				t.Errorf("wrong about %s: %s, %t", shownTree(l), shownTree(got), ok)
			}
		})
		if count != 720 {
			t.Error(count)
		}
	}
	permutations(tree("name=ann level=1 tag=x tag=y home"), func(l []impl.Node) {
		wantSortResult(t, s, []impl.Node{nodeOf("user", "", l...)}, tree("user{name=ann level=1 tag=x tag=y home}"), true)
	})
}

func TestEntryKey(t *testing.T) {
	for _, x := range []impl.Node{nodeOf("n", "v"), nodeOf("n", ""), nodeOf("other", "+007"), nodeOf("", "\xff\n"), nodeOf("n", strings.Repeat("long", 1000)), nodeOf("n", "v", tree("key=1 a=2")...), nodeOf("n", "", tree("n=1")...)} {
		// Not a list: just the Value, of whatever kind this is.
		for kind, n := range oneOfEveryKind() {
			if kind != impl.NdList {
				wantKey(t, n, x, x.Value)
				n.Keys = []string{"key", "none"}
				wantKey(t, n, x, x.Value)
			}
		}
		for _, kind := range kindsThatAreNone() {
			wantKey(t, impl.Schema{Kind: kind, Name: "n", Keys: []string{"none"}}, x, x.Value)
		}
		for _, ty := range someTypes() {
			wantKey(t, aLeafOf("n", ty), x, x.Value)
		}
		// A list without Keys.
		wantKey(t, aListOf(nil), x)
		wantKey(t, aListOf([]string{}, aLeaf("key")), x)
		// The Value of an entry is no part of its key.
		wantNoKey(t, aListOf([]string{"n"}, aLeaf("n")), nodeOf("n", "n"))
		wantNoKey(t, aListOf([]string{x.Name + "x"}), x)
	}
	entry := nodeOf("list", "", tree("a=1 b=2 c=3 d=4")...)
	for _, order := range []string{"a b c d", "d c b a", "b d a c"} {
		kids := []impl.Node{}
		for _, name := range strings.Fields(order) {
			kids = append(kids, entry.Kids[slices.IndexFunc(entry.Kids, func(x impl.Node) bool { return x.Name == name })])
		}
		x := nodeOf("list", "", kids...)
		for keys, want := range map[string]string{"a": "1", "b": "2", "d": "4", "a b": "1 2", "b a": "2 1", "c a d": "3 1 4", "a b c d": "1 2 3 4", "d c b a": "4 3 2 1", "a a": "1 1", "b a b": "2 1 2"} {
			wantKey(t, aListOf(strings.Fields(keys), leaves(4)...), x, strings.Fields(want)...)
			wantNoKey(t, aListOf(append(strings.Fields(keys), "e")), x)
			wantNoKey(t, aListOf(append([]string{"e"}, strings.Fields(keys)...)), x)
			wantNoKey(t, aListOf(append([]string{""}, strings.Fields(keys)...)), x)
			wantNoKey(t, aListOf([]string{keys + "x"}), x)
		}
		for missing := range 4 {
			fewer := nodeOf("list", "", slices.Delete(slices.Clone(kids), missing, missing+1)...)
			wantNoKey(t, aListOf([]string{"a", "b", "c", "d"}), fewer)
			wantNoKey(t, aListOf([]string{kids[missing].Name}), fewer)
		}
	}
	wantNoKey(t, aListOf([]string{"a"}), nodeOf("list", ""))
	wantNoKey(t, aListOf([]string{"a"}), nodeOf("list", "", nodeOf("b", "", tree("a=1")...)))
	wantNoKey(t, aListOf([]string{"a"}), nodeOf("a", "1"))
}

func TestEntryKeyOfWhatIsNotRight(t *testing.T) {
	// The first one of several kids counts.
	wantKey(t, aListOf([]string{"a"}), nodeOf("list", "", tree("a=1 a=2")...), "1")
	wantKey(t, aListOf([]string{"a"}), nodeOf("list", "", tree("a=2 a=1")...), "2")
	wantKey(t, aListOf([]string{"a", "b"}), nodeOf("list", "", tree("b=3 a a=2 b=4 a=1 b")...), "", "3")
	wantKey(t, aListOf([]string{"b", "a"}), nodeOf("list", "", tree("c=0 a{b=9} a=2 b=4")...), "4", "")
	// Values of any kind, and kids that are no leaves.
	for _, v := range mixedValues() {
		wantKey(t, aListOf([]string{"a", "b"}, aLeaf("a"), aLeafOf("b", aBool())), nodeOf("x", "y", nodeOf("b", v), nodeOf("a", v+"z", tree("a=1")...)), v+"z", v)
	}
	wantKey(t, aListOf([]string{"A b", ""}), nodeOf("list", "", nodeOf("", "1"), nodeOf("A b", "2")), "2", "1")
	wantKey(t, aListOf([]string{"key"}, aBox("key"), aMany("key")), nodeOf("list", "1", tree("key=7 key=8")...), "7")
	wantKey(t, aListOf(names(70)), nodeOf("list", "", namedNodes(90)...), names(70)...)
	wantNoKey(t, aListOf(names(91)), nodeOf("list", "", namedNodes(90)...))
	wantKey(t, fullSchema(1), nodeOf("a", "b", tree("x=1 y=2")...), "b")
	list := fullSchema(1)
	list.Kind = impl.NdList
	wantKey(t, list, nodeOf("a", "b", tree("y=1 z=3 x=2")...), "2", "1")
}

// namedNodes have the names(count) as their names and as their values.
func namedNodes(count int) []impl.Node {
	l := []impl.Node{}
	for _, s := range names(count) {
		l = append(l, nodeOf(s, s))
	}
	return l
}

func TestKeysOfTreesAscend(t *testing.T) {
	s := village(t)
	l, ok := impl.SortTree(s, tree("way{to=c name=b} way{name=a to=d} way{name=a to=c} user{level=1 name=bob} user{name=ann} port=3 port=20"))
	if !ok {
		t.Fatal("no tree")
	}
	keys := map[string][]string{}
	for _, x := range l {
		n, _ := impl.FindNode(s, []string{x.Name})
		key, ok := impl.EntryKey(n, x)
		if !ok {
			t.Errorf("%s has no key", shownTree([]impl.Node{x}))
		}
		keys[x.Name] = append(keys[x.Name], strings.Join(key, "/"))
	}
	for name, want := range map[string][]string{"way": {"a/c", "a/d", "b/c"}, "user": {"ann", "bob"}, "port": {"20", "3"}} {
		if !slices.Equal(keys[name], want) {
			t.Errorf("%s has the keys %q, want %q", name, keys[name], want)
		}
	}
}

// What a result has may be changed without an effect on anything else.
func TestTreesHaveMemoryOfTheirOwn(t *testing.T) {
	s := village(t)
	l := tree("mode=on user{name=ann home{door=1 room{chair=1}}} user{name=bob} word=a word=b")
	before := thingWithSpare(l)
	got, _ := impl.SortTree(s, l)
	again, _ := impl.SortTree(s, l)
	for _, x := range everyTreeNode(got) {
		x.Name, x.Value, x.Kids = "changed", "changed", append(x.Kids, nodeOf("more", ""))
	}
	if !equalTrees(l, before) || !equalTrees(again, before) {
		t.Error("a tree shares memory with what it was made of, or with another one")
	}
	x := nodeOf("list", "", tree("a=1 b=2")...)
	n := aListOf([]string{"b", "a"})
	key, _ := impl.EntryKey(n, x)
	key[0], key[1] = "changed", "changed"
	wantKey(t, n, x, "2", "1")
	if n.Keys[0] != "b" {
		t.Error("a key shares memory with the Keys")
	}
}

// someNodes are mostly right as kids, though in no order; they are the same in
// each run.
func (b *builder) someNodes(data []impl.Schema, keys []string) []impl.Node {
	l := []impl.Node{}
	for _, n := range data {
		isKey := slices.Contains(keys, n.Name)
		count := []int{0, 1, 1, 2}[b.source.IntN(4)]
		switch {
		case isKey && !b.oneIn(60):
			count = 1
		case n.Kind == impl.NdLeaf || n.Kind == impl.NdBox:
			count = min(count, 1)
		}
		for range count {
			l = append(l, b.someNode(n))
		}
		if b.oneIn(8) && n.Kind == impl.NdBox && !n.Present {
			l = append(l, nodeOf(n.Name, ""))
		}
	}
	b.source.Shuffle(len(l), func(i, j int) { l[i], l[j] = l[j], l[i] })
	return l
}

func (b *builder) someNode(n impl.Schema) impl.Node {
	if n.Kind == impl.NdLeaf || n.Kind == impl.NdMany {
		values := map[int][]string{impl.TyInt: {"0", "1", "2", "3", "4", "5", "+6", "07", "8", "-0"}, impl.TyText: {"", "a", "b", "ab", "z z", "~", "A", "0", "01", "true"}, impl.TyBool: {"true", "false", "1", "0"}, impl.TyEnum: {"on", "off"}, impl.TyRef: {"a", "b", "ab"}, impl.TyFlag: {""}}[n.Type.Kind]
		if len(values) == 0 {
			return nodeOf(n.Name, "x") // The type is none.
		}
		return nodeOf(n.Name, values[b.source.IntN(len(values))])
	}
	return nodeOf(n.Name, "", b.someNodes(dataKidsByRules(n.Kids), n.Keys)...)
}

// damage changes a node or two.
func (b *builder) damage(l []impl.Node) []impl.Node {
	all := everyTreeNode(l)
	if len(all) == 0 {
		return []impl.Node{nodeOf("a", "1")}
	}
	x, other := all[b.source.IntN(len(all))], all[b.source.IntN(len(all))]
	copied := impl.Node{Name: other.Name, Value: other.Value, Kids: thingWithSpare(other.Kids)}
	switch b.source.IntN(8) {
	case 0:
		x.Name = other.Name
	case 1:
		x.Value = mixedValues()[b.source.IntN(len(mixedValues()))]
	case 2:
		x.Value = other.Value
	case 3:
		x.Kids = append(slices.Clone(x.Kids), copied)
	case 4:
		x.Kids = x.Kids[:len(x.Kids)/2]
	case 5:
		*x = copied
	case 6:
		return append(slices.Clone(l), copied)
	default:
		slices.Reverse(x.Kids)
	}
	return l
}

// mixedTreeSchema is mostly valid; it is the same in each run.
func mixedTreeSchema(seed uint64) []impl.Schema {
	b := &builder{source: rand.New(rand.NewPCG(seed, 15)), room: 40}
	l := b.nodes(1 + int(seed%6))
	for i, n := range everyNode(l) {
		n.When, n.Given, n.Default = nil, false, ""
		if n.Name != "k" && n.Name != "l" {
			n.Name = string(rune('a'+i*5%9)) + impl.FormatInt(i)
		}
	}
	if b.oneIn(12) {
		b.change(l)
	}
	return l
}

func TestMixedTreesAreAsTheRulesSay(t *testing.T) {
	counts := map[string]int{}
	for seed := range uint64(2400) {
		s := mixedTreeSchema(seed)
		b := &builder{source: rand.New(rand.NewPCG(seed, 16))}
		for range 3 {
			l := b.someNodes(dataKidsByRules(s), nil)
			if len(l) > 0 && b.oneIn(3) {
				l = b.damage(l)
			}
			made, ok := madeByRules(s, l)
			if !ok {
				counts["not made"]++
				wantNotMade(t, s, l)
				continue
			}
			wantMade(t, s, l, made)
			if len(made) > 2 {
				counts["made"]++
			}
			l = b.damage(thingWithSpare(made))
			made, ok = madeByRules(s, l)
			wantSortResult(t, s, l, made, ok)
			isTree := isTreeByRules(s, l)
			wantIsTree(t, s, l, isTree)
			if !isTree {
				counts["damaged"]++
			}
			wantSameTree(t, l, made, equalTrees(l, made))
			wantCountedTree(t, countedByRules(l), l...)
		}
		if t.Failed() {
			t.Fatalf("at the seed %d", seed)
		}
	}
	if counts["made"] < 500 || counts["not made"] < 1000 || counts["damaged"] < 1000 {
		t.Error(counts)
	}
}

// endlessTrees lie within themselves.
func endlessTrees() [][]impl.Node {
	one := tree("a")
	one[0].Kids = one
	two := tree("b=1 a b=2")
	two[1].Kids = two
	both := tree("a a")
	both[0].Kids, both[1].Kids = both[1:], both
	far := tree("a{a{a{a}}}")
	far[0].Kids[0].Kids[0].Kids[0].Kids = far
	wide := tree("a a a a a a a a")
	for i := range wide {
		wide[i].Kids = wide
	}
	return [][]impl.Node{one, two, two[1:], both, both[1:], far, wide, {nodeOf("a", "", one...)}, {nodeOf("c", "", two...)}}
}

func TestLongTreesEnd(t *testing.T) {
	// No argument may lead to so many calls within calls that they break off.
	defer debug.SetMaxStack(debug.SetMaxStack(1 << 24))
	boxes := oneSchema(aMany("a"))
	for range impl.MaxDeep - 1 {
		boxes = []impl.Schema{aMany("b"), aBox("a", boxes...)}
	}
	wantNoTree := func(name string, l []impl.Node) {
		if got, ok := impl.SortTree(boxes, l); ok || len(got) > 0 || impl.IsTree(boxes, l) {
			t.Errorf("%s are a tree", name)
		}
	}
	inTime(t, "trees that lie within themselves", func() {
		finite := tree("a{a{a{a{a{a{a{a}}}}}}}")
		for i, l := range endlessTrees() {
			wantNoTree("nodes without an end", l)
			if impl.CountTree(l) < 1 || !impl.SameTree(l, l) || !impl.SameTree(l, endlessTrees()[i]) || impl.SameTree(l, finite) || impl.SameTree(finite, l) || impl.SameTree(l, l[:0]) {
				t.Errorf("wrong about the tree %d, which has no end", i)
			}
			for _, other := range endlessTrees() {
				impl.SameTree(l, other)
			}
			if key, ok := impl.EntryKey(aListOf([]string{"a"}), l[0]); ok && (len(key) != 1 || key[0] != "") {
				t.Errorf("the tree %d, which has no end, has the key %q", i, key)
			}
		}
	})
	inTime(t, "deep trees", func() {
		const depth = 300000
		deep := func(last string) []impl.Node {
			l := []impl.Node{nodeOf("a", last)}
			for range depth {
				l = []impl.Node{nodeOf("a", "", l...)}
			}
			return l
		}
		a := deep("1")
		wantNoTree("deep nodes", a)
		if impl.CountTree(a) != depth+1 || !impl.SameTree(a, deep("1")) || impl.SameTree(a, deep("2")) || impl.SameTree(a, a[0].Kids) {
			t.Error("wrong about deep trees")
		}
	})
	inTime(t, "wide trees", func() {
		wide := slices.Repeat(tree("a=1"), 300000)
		box := []impl.Node{nodeOf("b", "1"), nodeOf("a", "", wide...)}
		wantNoTree("wide nodes", wide)
		wantNoTree("nodes with many kids", box)
		other := slices.Clone(wide)
		other[len(other)-1].Value = "2"
		if impl.CountTree(wide) != 300000 || impl.CountTree(box) != 300002 || !impl.SameTree(wide, slices.Clone(wide)) || impl.SameTree(wide, other) || impl.SameTree(wide, wide[1:]) {
			t.Error("wrong about wide trees")
		}
		if key, ok := impl.EntryKey(aListOf([]string{"z", "a"}), nodeOf("list", "", append(wide, nodeOf("z", "3"))...)); !ok || !slices.Equal(key, []string{"3", "1"}) {
			t.Errorf("the key of a wide entry is %q, %t", key, ok)
		}
		if key, ok := impl.EntryKey(aListOf(slices.Repeat([]string{"a"}, 300000)), nodeOf("list", "", wide...)); !ok || len(key) != 300000 {
			t.Errorf("a key of many names has %d values, %t", len(key), ok)
		}
	})
	inTime(t, "shared kids", func() {
		// The tree that this stands for has more nodes than can be counted.
		l, other := tree("a=1"), tree("a=1")
		for range 200 {
			l = []impl.Node{nodeOf("a", "", l...), nodeOf("a", "", l...)}
			other = []impl.Node{nodeOf("a", "", other...), nodeOf("a", "", other...)}
		}
		wantNoTree("shared nodes", l)
		if !impl.SameTree(l, l) || !impl.SameTree(l, other) || impl.SameTree(l, l[:1]) || impl.SameTree(l, l[0].Kids) {
			t.Error("wrong about shared nodes")
		}
		for _, count := range []int{121, 5000} {
			wide := manyNodes("b", count)
			for range impl.MaxDeep - 1 {
				below := wide
				wide = slices.Repeat([]impl.Node{nodeOf("a", "", below...)}, count)
				wantNoTree("shared nodes everywhere", wide)
				wantNoTree("shared nodes below", append(tree("b=1"), wide[0]))
			}
		}
	})
	inTime(t, "long names and values", func() {
		long := strings.Repeat("a", 1000000)
		for _, l := range [][]impl.Node{{nodeOf(long, "")}, {nodeOf("a", long)}, {nodeOf("b", long)}, {nodeOf("a", "", nodeOf(long, long))}} {
			wantNoTree("long names and values", l)
			if !impl.SameTree(l, thingWithSpare(l)) || impl.SameTree(l, tree("a")) {
				t.Error("wrong about long names and values")
			}
		}
	})
}
