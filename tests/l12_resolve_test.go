package tests

import (
	"fmt"
	"maps"
	"math/rand/v2"
	"reflect"
	"runtime/debug"
	"slices"
	"strings"
	"testing"

	"loop.example/g03013/impl"
)

// address is the list of names with `/` between them; that of the root is "".
func address(s string) []string {
	if s == "" {
		return []string{}
	}
	return strings.Split(s, "/")
}

// stepsTo are steps without tests.
func stepsTo(names []string) []impl.Step {
	l := []impl.Step{}
	for _, s := range names {
		l = append(l, aStep(s))
	}
	return l
}

func mustReadPath(t *testing.T, s string) impl.Path {
	t.Helper()
	p, ok := impl.ParsePath(s)
	if !ok {
		t.Fatalf("ParsePath(%q) is false", s)
	}
	return p
}

func mustReadNodes(t *testing.T, s string) []impl.Schema {
	t.Helper()
	return mustReadModule(t, "module m { "+s+" }").Body
}

// villageText has every kind of node at several depths, and one name in several
// places.
const villageText = `
leaf mode { type enum on off; }
list user {
  key name;
  leaf name { type text 1..8; }
  leaf level { type int; }
  many tag { type text; }
  choice sort {
    case plain { leaf vlan { type int; } }
    case rich { box more { leaf note { type text; } list item { key id; leaf id { type int; } leaf level { type bool; } } } }
  }
  box home { present; leaf door { type int; } box room { leaf bed { type bool; } many chair { type int; } } }
}
many word { type text; }
leaf on { type flag; }
leaf chief { type ref "/user/name"; }
many chiefs { type ref "/user/name"; }
choice use {
  case flat { leaf vlan { type int; } }
  case deep {
    choice inner { case in { box pool { leaf size { type int; } } } case out; }
    many port { type int; }
    list way { key name to; leaf name { type text; } leaf to { type ref "/user/name"; } }
  }
}
box empty { present; }
`

func village(t *testing.T) []impl.Schema {
	t.Helper()
	return mustReadNodes(t, villageText)
}

// nodesByAddress are the data nodes of a schema, valid or not, by the keys of
// their addresses.
func nodesByAddress(l []impl.Schema, above ...string) map[string]impl.Schema {
	found := map[string]impl.Schema{}
	for _, n := range dataKidsByRules(l) {
		at := append(slices.Clone(above), n.Name)
		if _, isThere := found[keyOf(at)]; !isThere {
			found[keyOf(at)] = n
			maps.Copy(found, nodesByAddress(n.Kids, at...))
		}
	}
	return found
}

func keyOf(at []string) string {
	key := ""
	for _, s := range at {
		key += "\x00" + s
	}
	return key
}

// addresses are those of all data nodes and of the root, in order.
func addresses(l []impl.Schema, above ...string) [][]string {
	all := [][]string{append([]string{}, above...)}
	for _, n := range dataKidsByRules(l) {
		all = append(all, addresses(n.Kids, append(slices.Clone(above), n.Name)...)...)
	}
	return all
}

// resolvedByRules looks every address on the way up in a table.
func resolvedByRules(l []impl.Schema, at []string, p impl.Path) ([]string, bool) {
	if !impl.IsPath(p) || p.Ups > len(at) {
		return nil, false
	}
	way := append([]string{}, at[:len(at)-p.Ups]...)
	if p.Root {
		way = []string{}
	}
	nodes := nodesByAddress(l)
	for _, s := range p.Steps {
		way = append(way, s.Name)
		needed := map[string]bool{keyOf(way): false}
		for _, test := range s.Tests {
			needed[keyOf(append(slices.Clone(way), test.Name))] = true
		}
		for at, isLeaf := range needed {
			if n, isThere := nodes[at]; !isThere || isLeaf && n.Kind != impl.NdLeaf {
				return nil, false
			}
		}
	}
	return way, true
}

func targetByRules(l []impl.Schema, at []string, ty impl.Type) ([]string, bool) {
	p, _ := impl.ParsePath(ty.Path)
	way, ok := resolvedByRules(l, at, p)
	n, isThere := nodesByAddress(l)[keyOf(way)]
	isTarget := slices.Contains([]int{impl.NdLeaf, impl.NdMany}, n.Kind) && !slices.Contains([]int{impl.TyRef, impl.TyFlag}, n.Type.Kind)
	if ty.Kind != impl.TyRef || !ok || !isThere || !isTarget {
		return nil, false
	}
	return way, true
}

// pathsByRules are the paths in an expression.
func pathsByRules(e impl.Expr) []impl.Path {
	l := []impl.Path{}
	if e.Op == impl.ExPath || e.Op == impl.ExCount {
		l = append(l, e.Path)
	}
	for _, kid := range e.Kids {
		l = append(l, pathsByRules(kid)...)
	}
	return l
}

// addressByRules is the address at which the expressions of a node are taken.
func addressByRules(p placed) []string {
	at := []string{}
	for _, n := range append(slices.Clone(p.above), p.node) {
		if n.Kind <= impl.NdMany {
			at = append(at, n.Name)
		}
	}
	return at
}

// checkedByRules asks all nodes for one code after the other, and then takes the
// first node of those that it found.
func checkedByRules(l []impl.Schema) (int, []string) {
	if !isSchemaByRules(l) {
		return impl.ChSchema, nil
	}
	nodes := everyPlaced(l)
	first, code, at := len(nodes), impl.ChFine, []string{}
	for _, asked := range []int{impl.ChWhen, impl.ChMust, impl.ChRef} {
		place := slices.IndexFunc(nodes, func(p placed) bool { return !isFineByRules(l, p, asked) })
		if place >= 0 && place < first {
			first, code, at = place, asked, addressByRules(nodes[place])
		}
	}
	return code, at
}

func isFineByRules(l []impl.Schema, p placed, code int) bool {
	at := addressByRules(p)
	rules := map[int][]impl.Expr{impl.ChWhen: p.node.When, impl.ChMust: p.node.Must}[code]
	for _, e := range rules {
		for _, way := range pathsByRules(e) {
			if _, ok := resolvedByRules(l, at, way); !ok {
				return false
			}
		}
	}
	_, ok := targetByRules(l, at, p.node.Type)
	return ok || code != impl.ChRef || p.node.Type.Kind != impl.TyRef
}

// thingWithSpare is a copy that has more memory behind its lists.
func thingWithSpare[T any](thing T) T {
	return copyWithSpare(reflect.ValueOf(thing)).Interface().(T)
}

// wantUntouchedThing is for a thing that comes from thingWithSpare(before).
func wantUntouchedThing[T any](t *testing.T, name string, thing T, before T) {
	t.Helper()
	if !sameThing(withSpareShown(reflect.ValueOf(thing)), withSpareShown(reflect.ValueOf(thingWithSpare(before)))) {
		t.Errorf("%s changed its argument, or the memory behind it, from %s to %s", name, shownThing(reflect.ValueOf(before)), shownThing(reflect.ValueOf(thing)))
	}
}

// wantResolution also holds the memory of two results against the arguments.
func wantResolution(t *testing.T, l []impl.Schema, at []string, p impl.Path, want []string, wantOK bool) {
	t.Helper()
	schema, from, path := thingWithSpare(l), thingWithSpare(at), thingWithSpare(p)
	got, ok := impl.ResolvePath(schema, from, path)
	again, _ := impl.ResolvePath(schema, from, path)
	if ok != wantOK || !slices.Equal(got, want) {
		t.Errorf("ResolvePath(%s, %.200q, %s) = %.200q, %t, want %.200q, %t", shownSchemas(l), at, shownPath(p), got, ok, want, wantOK)
	}
	if byRules, ok := resolvedByRules(l, at, p); ok != wantOK || !slices.Equal(byRules, want) {
		t.Errorf("by the rules, ResolvePath(%s, %.200q, %s) would be %.200q, %t", shownSchemas(l), at, shownPath(p), byRules, ok)
	}
	wantUntouchedThing(t, "ResolvePath", schema, l)
	wantUntouchedThing(t, "ResolvePath", from, at)
	wantUntouchedThing(t, "ResolvePath", path, p)
	wantSeparate(t, "ResolvePath", schema, from, path, got, again)
}

func wantAsRulesSay(t *testing.T, l []impl.Schema, at []string, p impl.Path) {
	t.Helper()
	got, ok := impl.ResolvePath(l, at, p)
	if want, wantOK := resolvedByRules(l, at, p); ok != wantOK || !slices.Equal(got, want) {
		t.Errorf("ResolvePath(%s, %.200q, %s) = %.200q, %t, want %.200q, %t", shownSchemas(l), at, shownPath(p), got, ok, want, wantOK)
	}
}

func wantResolved(t *testing.T, l []impl.Schema, at string, p impl.Path, want string) {
	t.Helper()
	wantResolution(t, l, address(at), p, address(want), true)
}

func wantNotResolved(t *testing.T, l []impl.Schema, at string, p impl.Path) {
	t.Helper()
	wantResolution(t, l, address(at), p, nil, false)
}

// wantTargetResult is like wantResolution, for TargetOf.
func wantTargetResult(t *testing.T, l []impl.Schema, at []string, ty impl.Type, want []string, wantOK bool) {
	t.Helper()
	schema, from, of := thingWithSpare(l), thingWithSpare(at), thingWithSpare(ty)
	got, ok := impl.TargetOf(schema, from, of)
	again, _ := impl.TargetOf(schema, from, of)
	if ok != wantOK || !slices.Equal(got, want) {
		t.Errorf("TargetOf(%s, %.200q, %s) = %.200q, %t, want %.200q, %t", shownSchemas(l), at, shownType(ty), got, ok, want, wantOK)
	}
	if byRules, ok := targetByRules(l, at, ty); ok != wantOK || !slices.Equal(byRules, want) {
		t.Errorf("by the rules, TargetOf(%s, %.200q, %s) would be %.200q, %t", shownSchemas(l), at, shownType(ty), byRules, ok)
	}
	wantUntouchedThing(t, "TargetOf", schema, l)
	wantUntouchedThing(t, "TargetOf", from, at)
	wantUntouchedThing(t, "TargetOf", of, ty)
	wantSeparate(t, "TargetOf", schema, from, of, got, again)
}

func wantTarget(t *testing.T, l []impl.Schema, at string, path string, want string) {
	t.Helper()
	wantTargetResult(t, l, address(at), aRef(path), address(want), true)
}

func wantNoTarget(t *testing.T, l []impl.Schema, at string, path string) {
	t.Helper()
	wantTargetResult(t, l, address(at), aRef(path), nil, false)
}

// wantCheck also tries what is promised: what is checked resolves.
func wantCheck(t *testing.T, l []impl.Schema, wantCode int, want ...string) {
	t.Helper()
	schema := thingWithSpare(l)
	code, at := impl.CheckSchema(schema)
	_, again := impl.CheckSchema(schema)
	if code != wantCode || !slices.Equal(at, want) {
		t.Errorf("CheckSchema(%s) = %d, %q, want %d, %q", shownSchemas(l), code, at, wantCode, want)
	}
	if code, at := checkedByRules(l); code != wantCode || !slices.Equal(at, want) {
		t.Errorf("by the rules, CheckSchema(%s) would be %d, %q", shownSchemas(l), code, at)
	}
	wantUntouchedThing(t, "CheckSchema", schema, l)
	wantSeparate(t, "CheckSchema", schema, at, again)
	if code == impl.ChFine {
		wantAllResolved(t, l)
	}
}

func wantAllResolved(t *testing.T, l []impl.Schema) {
	t.Helper()
	for _, p := range everyPlaced(l) {
		at := addressByRules(p)
		for _, e := range slices.Concat(p.node.When, p.node.Must) {
			for _, way := range impl.PathsOf(e) {
				if _, ok := impl.ResolvePath(l, at, way); !ok {
					t.Errorf("%s is fine, but %s does not resolve at %q", shownSchemas(l), shownPath(way), at)
				}
			}
		}
		if p.node.Type.Kind != impl.TyRef {
			continue
		}
		to, ok := impl.TargetOf(l, at, p.node.Type)
		target, isThere := impl.FindNode(l, to)
		if !ok || !isThere || target.Kind != impl.NdLeaf && target.Kind != impl.NdMany || target.Type.Kind == impl.TyRef || target.Type.Kind == impl.TyFlag {
			t.Errorf("%s is fine, but the target of %q is %q", shownSchemas(l), at, to)
		}
	}
}

func wantNodesChecked(t *testing.T, nodes string, code int, at string) {
	t.Helper()
	wantCheck(t, mustReadNodes(t, nodes), code, address(at)...)
}

func wantNodesFine(t *testing.T, nodes string) {
	t.Helper()
	wantNodesChecked(t, nodes, impl.ChFine, "")
}

// someNowheres are addresses of no data node of the village.
func someNowheres() []string {
	return []string{"none", "user/none", "none/name", "mode/mode", "use", "flat", "use/flat/vlan", "user/sort", "user/plain", "user/sort/plain/vlan", "inner/in/pool", "user/home/room/bed/none", "a/b/c/d/e/f/g/h", "a/b/c/d/e/f/g/h/i/j/k/l", "//", "User", "user/name "}
}

func everyAddress(l []impl.Schema) []string {
	all := someNowheres()
	for _, at := range addresses(l) {
		all = append(all, strings.Join(at, "/"))
	}
	return all
}

func TestCheckConstants(t *testing.T) {
	for i, code := range []int{impl.ChFine, impl.ChSchema, impl.ChWhen, impl.ChMust, impl.ChRef} {
		if code != i {
			t.Errorf("the code at the place %d is %d", i, code)
		}
	}
}

func TestTheRootPath(t *testing.T) {
	for _, l := range [][]impl.Schema{village(t), nil, leaves(70), {aUses("a")}, {fullSchema(2)}} {
		for _, at := range everyAddress(village(t)) {
			wantResolved(t, l, at, fromRoot(), "")
		}
	}
}

func TestPathsThatOnlyGoUp(t *testing.T) {
	for _, l := range [][]impl.Schema{village(t), nil, leaves(70)} {
		for _, at := range everyAddress(village(t)) {
			names := address(at)
			for ups := range impl.MaxUps + 3 {
				// With Ups 0 it is no path.
				if ups > 0 && ups <= len(names) && ups <= impl.MaxUps {
					wantResolution(t, l, names, fromAbove(ups), names[:len(names)-ups], true)
				} else {
					wantResolution(t, l, names, fromAbove(ups), nil, false)
				}
			}
		}
	}
}

// Above the root is nothing, also if the path comes down again.
func TestPathsAboveTheRoot(t *testing.T) {
	l := village(t)
	for _, at := range everyAddress(l) {
		for ups := range impl.MaxUps + 1 {
			p := fromAbove(ups, aStep("user"), aStep("name"))
			if ups == len(address(at)) {
				wantResolved(t, l, at, p, "user/name")
				wantResolved(t, l, at, fromAbove(ups, aStep("mode")), "mode")
			} else if ups > len(address(at)) {
				wantNotResolved(t, l, at, p)
				wantNotResolved(t, l, at, fromAbove(ups))
				wantNotResolved(t, l, at, fromAbove(ups, aStep("mode")))
			}
		}
	}
	for _, at := range []string{"user/home/room/bed", "user/home/room/none", "a/b/c/d"} {
		wantResolved(t, l, at, mustReadPath(t, "../../../../user/level"), "user/level")
		wantNotResolved(t, l, at, mustReadPath(t, "../../../../../user/level"))
	}
	wantResolved(t, l, "a/b/c/d/e/f/g/h", mustReadPath(t, "../../../../../../../../user/level"), "user/level")
	wantNotResolved(t, l, "a/b/c/d/e/f/g", mustReadPath(t, "../../../../../../../../user/level"))
	wantNotResolved(t, l, "a/b/c/d/e/f/g/h/i", mustReadPath(t, "../../../../../../../../user/level"))
	wantNotResolved(t, l, "", mustReadPath(t, ".."))
	wantNotResolved(t, l, "", mustReadPath(t, "../user"))
}

func TestPathsToEveryNode(t *testing.T) {
	l := village(t)
	all := addresses(l)
	for _, at := range append(slices.Clone(all), address("none"), address("user/none"), address("user/home/none/none")) {
		for _, to := range all[1:] {
			wantResolution(t, l, at, fromRoot(stepsTo(to)...), to, true)
			wantResolution(t, l, at, fromAbove(len(at), stepsTo(to)...), to, true)
			for ups := range len(at) {
				base := at[:len(at)-ups]
				isBelow := len(to) > len(base) && slices.Equal(to[:len(base)], base)
				if isBelow {
					wantResolution(t, l, at, fromAbove(ups, stepsTo(to[len(base):])...), to, true)
				}
				wantAsRulesSay(t, l, at, fromAbove(ups, stepsTo(to)...))
			}
		}
	}
}

func TestSomePaths(t *testing.T) {
	l := village(t)
	for _, c := range []struct{ at, path, want string }{
		{"", "/mode", "mode"}, {"", "mode", "mode"}, {"mode", "/mode", "mode"}, {"mode", "../mode", "mode"}, {"mode", "../user/name", "user/name"}, {"", "user", "user"}, {"", "word", "word"}, {"", "chiefs", "chiefs"}, {"", "on", "on"},
		{"user", "name", "user/name"}, {"user/name", "../level", "user/level"}, {"user/name", "../../user/level", "user/level"}, {"user/name", "..", "user"}, {"user/name", "../..", ""}, {"user/level", "../../mode", "mode"},
		{"user", "home", "user/home"}, {"user/home/room/bed", "../chair", "user/home/room/chair"}, {"user/home/room/bed", "../../door", "user/home/door"}, {"user/home/room/bed", "../../../name", "user/name"}, {"user/home/room/bed", "../../../../pool/size", "pool/size"}, {"pool/size", "../../user/home/room", "user/home/room"},
		{"user/more/item/id", "../../note", "user/more/note"}, {"user/more/item/id", "../../../vlan", "user/vlan"}, {"user/more/item/id", "../../../../vlan", "vlan"}, {"user/vlan", "../more/item/id", "user/more/item/id"}, {"user/vlan", "../../vlan", "vlan"},
		{"way", "name", "way/name"}, {"way/to", "../name", "way/name"}, {"way/to", "../../port", "port"}, {"empty", "..", ""}, {"empty", "../empty", "empty"},
		{"user/more/item", "level", "user/more/item/level"}, {"user/more/item", "../../level", "user/level"},
	} {
		wantResolved(t, l, c.at, mustReadPath(t, c.path), c.want)
	}
	for _, c := range []struct{ at, path string }{
		// Choices and cases are no steps.
		{"", "/use"}, {"", "/use/flat"}, {"", "/use/flat/vlan"}, {"", "flat/vlan"}, {"", "/deep/port"}, {"", "/use/vlan"}, {"", "/inner/in/pool"}, {"", "/in/pool"}, {"", "use"}, {"user", "sort"}, {"user", "plain"}, {"user", "sort/plain/vlan"}, {"user", "rich/more"}, {"user/vlan", "../plain/vlan"},
		// Nor are they names of an address.
		{"use/flat", "vlan"}, {"flat", "vlan"}, {"user/sort", "vlan"}, {"user/sort/plain", "vlan"}, {"user/plain/vlan", "../../name/none"}, {"user/plain/vlan", "../vlan"}, {"flat/vlan", "../vlan"}, {"inner/in/pool/size", "../size"},
		// Nothing is there.
		{"", "none"}, {"", "/none"}, {"", "name"}, {"", "/name"}, {"user", "mode"}, {"user", "user"}, {"user", "../name"}, {"user/name", "../none"}, {"user/name", "level"}, {"", "/user/none"}, {"", "/none/name"}, {"", "/user/none/name"}, {"", "user/home/none"}, {"", "user/room"}, {"", "/user/home/bed"}, {"", "user/user"}, {"", "empty/none"}, {"empty", "empty"},
		// Nothing is below a leaf, a many or a flag.
		{"", "mode/mode"}, {"", "/mode/none"}, {"", "/user/name/name"}, {"", "/user/name/level"}, {"user/name", "name"}, {"mode", "mode"}, {"word", "word"}, {"", "word/word"}, {"", "/user/tag/name"}, {"on", "on"}, {"chief", "name"}, {"", "/chief/name"},
		// A step back is none.
		{"user/home/none", "../../home/none"}, {"user/home/none", "../none"},
	} {
		wantNotResolved(t, l, c.at, mustReadPath(t, c.path))
	}
}

// The address itself is looked up just by the steps that follow.
func TestAddressesThatAreNowhere(t *testing.T) {
	l := village(t)
	for _, at := range someNowheres() {
		for _, way := range []string{"name", "mode", "user/name", "none", "vlan", "room/bed", "size"} {
			wantNotResolved(t, l, at, fromHere(stepsTo(address(way))...))
		}
		wantResolved(t, l, at, mustReadPath(t, "/user/name"), "user/name")
		wantResolved(t, l, at, fromAbove(1), strings.Join(address(at)[:len(address(at))-1], "/"))
	}
	wantResolved(t, l, "user/none", mustReadPath(t, "../name"), "user/name")
	wantResolved(t, l, "user/home/none/none", mustReadPath(t, "../../room/bed"), "user/home/room/bed")
	wantNotResolved(t, l, "user/none/home/none", mustReadPath(t, "../room/bed"))
	wantNotResolved(t, l, "none/home/none", mustReadPath(t, "../room/bed"))
	wantResolved(t, l, "none/home/none", mustReadPath(t, "../.."), "none")
	wantNotResolved(t, nil, "a", mustReadPath(t, "/a"))
	// The names need be none.
	wantResolution(t, l, []string{"A b", "/", ""}, fromAbove(1), []string{"A b", "/"}, true)
	wantResolution(t, l, []string{"A b", "", "\xff"}, fromAbove(3, aStep("mode")), []string{"mode"}, true)
	wantResolution(t, l, []string{"user/home"}, fromHere(aStep("door")), nil, false)
	wantResolution(t, l, []string{"user/home"}, fromAbove(1, aStep("user")), []string{"user"}, true)
}

func TestTestsOfSteps(t *testing.T) {
	l := village(t)
	for _, path := range []string{
		`/user[name="a"]`, `/user[level="1"]`, `/user[level="x"]/name`, `/user[name=""]/home/door`, `/user[vlan="1"]/home`, `/user[name="a"][level="1"]/tag`, `/user[level="1"][name="a"][vlan="2"]`, `/user[vlan="a"][name="a"][level="a"]/more/item[id="1"]/level`, `/user[name="a"]/home[door="1"]/room[bed="true"]/chair`,
		`/user/home[door="1"]`, `/user/home/room[bed="x"]`, `/user/more[note="n"]/item[id="1"][level="true"]/id`, `/pool[size="1"]/size`, `/way[to="a"][name="b"]`, `/way[name="b"]/to`, `/way[to="a"]`,
	} {
		p := mustReadPath(t, path)
		to := []string{}
		for _, s := range p.Steps {
			to = append(to, s.Name)
		}
		for _, at := range [][]string{{}, {"user", "home", "room"}, {"none"}} {
			wantResolution(t, l, at, p, to, true)
			wantResolution(t, l, at, fromAbove(len(at), p.Steps...), to, true)
		}
	}
	for _, path := range []string{
		// A many, a list or a box, nothing, and a choice or a case.
		`/user[tag="a"]`, `/user[home="a"]`, `/user[more="a"]/name`, `/user/more[item="a"]`, `/user[none="a"]/name`, `/user[x="a"]`, `/user[sort="a"]`, `/user[plain="a"]/vlan`, `/user[rich="a"]`, `/user/home/room[chair="1"]/bed`, `/user/home[room="a"]`,
		// A leaf of another node: above, below, beside.
		`/user[mode="on"]/name`, `/user[door="1"]`, `/user[note="a"]/more`, `/user[id="1"]`, `/user/home[name="a"]/door`, `/user/home[bed="1"]`, `/user/more/item[note="a"]`, `/user/more/item[name="a"]`, `/pool[vlan="1"]/size`, `/way[level="1"]`, `/user[user="a"]`,
		// One of several.
		`/user[name="a"][none="b"]`, `/user[none="b"][name="a"]/level`, `/user[name="a"][tag="b"][level="1"]`, `/user[name="a"][level="1"][tag="b"]`, `/user[name="a"]/home[none="1"]/room`, `/user[none="a"]/home[door="1"]/room`, `/user/home[door="1"]/room[none="true"]/bed`,
		// What has no kids has no leaf, and neither has what has no leaf.
		`/mode[mode="on"]`, `/word[word="a"]`, `/user/name[name="a"]`, `/user/tag[tag="a"]`, `/on[on=""]`, `/chief[name="a"]`, `/empty[mode="on"]`, `/empty[empty="a"]`, `/vlan[vlan="1"]`, `/port[a="1"]`, `/user/home/room/bed[bed="true"]`,
	} {
		wantNotResolved(t, l, "", mustReadPath(t, path))
		wantNotResolved(t, l, "user/home", mustReadPath(t, path))
		wantNotResolved(t, l, "user", mustReadPath(t, ".."+path))
		wantNotResolved(t, l, "", mustReadPath(t, path[1:]))
	}
	// The same one twice is no path.
	wantNotResolved(t, l, "", fromRoot(aStep("user", aTest("name", "a"), aTest("name", "a"))))
	wantNotResolved(t, l, "", fromRoot(aStep("user", aTest("name", "a"), aTest("level", "1"), aTest("name", "b")), aStep("name")))
	// Any value will do, if it is a text.
	wantResolved(t, l, "", fromRoot(aStep("user", aTest("level", "no number"))), "user")
	wantResolved(t, l, "", fromRoot(aStep("user", aTest("level", strings.Repeat("~", impl.MaxText)))), "user")
	wantNotResolved(t, l, "", fromRoot(aStep("user", aTest("level", strings.Repeat("~", impl.MaxText+1)))))
}

func TestTestsOfEveryKindOfNode(t *testing.T) {
	inner := map[string]impl.Schema{"leaf": aLeaf("x"), "flag": aLeafOf("x", aFlag()), "ref": aLeafOf("x", aRef("/a")), "many": aMany("x"), "box": aBox("x"), "list": aList("x"), "choice": aChoice("x"), "other": aLeaf("y"), "none": {Name: "x"}, "uses": aUses("x")}
	p, below := fromRoot(aStep("n", aTest("x", "1"))), fromRoot(aStep("n", aTest("x", "1")), aStep("key"))
	for name, kid := range inner {
		isLeaf := kid.Kind == impl.NdLeaf && kid.Name == "x"
		for _, kids := range [][]impl.Schema{{kid}, {aChoice("c", aCase("d", kid))}, {aLeaf("a"), aChoice("c", aCase("e"), aCase("d", aChoice("f", aCase("g", aMany("b"), kid))))}, {aBox("up", aLeaf("x")), kid}, {kid, aList("up", aMany("x"))}} {
			for kind := impl.NdBox; kind <= impl.NdMany; kind++ {
				n := aList("n", kids...)
				n.Kind = kind
				if isLeaf {
					wantResolved(t, oneSchema(n), "", p, "n")
					wantResolved(t, oneSchema(n), "", below, "n/key")
				} else {
					wantNotResolved(t, oneSchema(n), "", p)
					wantNotResolved(t, oneSchema(n), "", below)
				}
			}
		}
		if t.Failed() {
			t.Fatalf("with a %s", name)
		}
	}
	// The first node of the name counts.
	leaf, many := aLeaf("x"), aMany("x")
	for _, c := range []struct {
		kids []impl.Schema
		want bool
	}{
		{[]impl.Schema{leaf, many}, true}, {[]impl.Schema{many, leaf}, false}, {[]impl.Schema{leaf, leaf}, true}, {[]impl.Schema{aBox("x", leaf), leaf}, false}, {[]impl.Schema{aBox("y", many), leaf}, true},
		{[]impl.Schema{aChoice("x", aCase("x", leaf)), many}, true}, {[]impl.Schema{aChoice("x", aCase("x", many)), leaf}, false}, {[]impl.Schema{aChoice("x", aCase("x")), leaf, many}, true}, {[]impl.Schema{aChoice("c", aCase("d", aLeaf("y")), aCase("e", many)), leaf}, false},
		{[]impl.Schema{aUses("x"), leaf}, true}, {[]impl.Schema{{Name: "x", Kids: oneSchema(many)}, leaf}, true},
	} {
		if c.want {
			wantResolved(t, oneSchema(aBox("n", c.kids...)), "", p, "n")
		} else {
			wantNotResolved(t, oneSchema(aBox("n", c.kids...)), "", p)
		}
	}
}

func TestPathsThatAreNoneDoNotResolve(t *testing.T) {
	l := []impl.Schema{aBox("a", aLeaf("b"), aLeaf("d"), aLeaf("e")), aBox("", aLeaf("")), aBox("A", aLeaf("A")), aBox("..", aLeaf("b")), aBox("1", aLeaf("b"))}
	for _, s := range stepsWithout(200) {
		l = append(l, aBox(s.Name, aLeaf("a")))
	}
	for _, p := range wrongPaths() {
		for _, at := range [][]string{nil, {"a"}, {"a", "b"}} {
			if got, ok := impl.ResolvePath(l, at, p); ok || len(got) > 0 {
				t.Errorf("ResolvePath(.., %q, %s) = %q, %t", at, shownPath(p), got, ok)
			}
		}
	}
	wantNotResolved(t, village(t), "user", impl.Path{})
	wantNotResolved(t, village(t), "", impl.Path{})
	wantNotResolved(t, village(t), "user/name", impl.Path{Root: true, Ups: 1})
	wantNotResolved(t, village(t), "user/name", impl.Path{Ups: -1, Steps: stepsTo(address("name"))})
	wantNotResolved(t, village(t), "user", impl.Path{Ups: -1})
	wantNotResolved(t, oneSchema(aBox("", aLeaf("a"))), "", fromRoot(aStep("")))
	wantNotResolved(t, oneSchema(aBox("A", aLeaf("a"))), "", fromRoot(aStep("A")))
	wantNotResolved(t, oneSchema(aBox("a", aLeaf("A"))), "", fromRoot(aStep("a", aTest("A", "1"))))
	// As many steps as there may be.
	for count := 1; count <= impl.MaxSteps+2; count++ {
		deep, names := oneSchema(aLeaf("last")), slices.Repeat([]string{"a"}, count)
		for range count {
			deep = oneSchema(aBox("a", deep...))
		}
		if count <= impl.MaxSteps {
			wantResolution(t, deep, nil, fromRoot(stepsTo(names)...), names, true)
			wantResolution(t, deep, names, fromHere(aStep("last")), append(names, "last"), true)
		} else {
			wantResolution(t, deep, nil, fromRoot(stepsTo(names)...), nil, false)
			wantResolution(t, deep, names, fromHere(aStep("last")), append(names, "last"), true)
		}
	}
}

func TestSchemasInWhichNothingResolves(t *testing.T) {
	wrong := []impl.Schema{aUses("a"), {Name: "a"}, {Kind: 8, Name: "a"}, {Kind: -1, Name: "a", Kids: oneSchema(aLeaf("a"))}, aChoice("a"), aCase("a"), aUses("b"), aLeaf(""), aLeaf("A"), aBox("b", aLeaf("a"))}
	for _, l := range append([][]impl.Schema{nil, {}, wrong}, slices.Collect(slices.Chunk(wrong, 1))...) {
		for _, p := range everyStart(aStep("a")) {
			for _, at := range []string{"", "a", "a/a", "a/a/a/a/a/a/a/a"} {
				wantNotResolved(t, l, at, p)
			}
		}
	}
}

// What is asked of a schema is just that FindNode leads on.
func TestPathsInSchemasThatAreNotValid(t *testing.T) {
	leaf := aLeaf("a")
	leaf.Kids = []impl.Schema{aMany("b"), aLeaf("c")}
	wantResolved(t, oneSchema(leaf), "", mustReadPath(t, "/a/b"), "a/b")
	wantResolved(t, oneSchema(leaf), "a/c", mustReadPath(t, `../../a[c="1"]/b`), "a/b")
	wantNotResolved(t, oneSchema(leaf), "", mustReadPath(t, `/a[b="1"]`))
	wantResolved(t, []impl.Schema{aBox("a", aLeaf("b")), aBox("a", aLeaf("c"))}, "", mustReadPath(t, "/a/b"), "a/b")
	wantNotResolved(t, []impl.Schema{aBox("a", aLeaf("b")), aBox("a", aLeaf("c"))}, "", mustReadPath(t, "/a/c"))
	wantNotResolved(t, []impl.Schema{aLeaf("a"), aBox("a", aLeaf("c"))}, "a", mustReadPath(t, "c"))
	wantResolved(t, []impl.Schema{aChoice("a", aCase("x", aBox("a", aLeaf("b")))), aBox("a")}, "", mustReadPath(t, "/a/b"), "a/b")
	wantResolution(t, oneSchema(aBox("A b", aLeaf("c"))), []string{"A b"}, fromHere(aStep("c")), []string{"A b", "c"}, true)
	wantResolution(t, oneSchema(aBox("", aBox("", aLeaf("c")))), []string{"", "", "x"}, fromAbove(1, aStep("c")), []string{"", "", "c"}, true)
	wantResolved(t, leaves(200), "n7", mustReadPath(t, "../n150"), "n150")
	full := fullSchema(3)
	wantResolved(t, oneSchema(full), "full/full1", mustReadPath(t, "../full2/full1/full0"), "full/full2/full1/full0")
	wantNotResolved(t, oneSchema(full), "full", mustReadPath(t, `/full[full0="a"]`))
}

// Each part of a result has memory of its own, also if the path changes nothing.
func TestAddressesHaveMemoryOfTheirOwn(t *testing.T) {
	l := village(t)
	for _, p := range []impl.Path{fromHere(aStep("name")), fromAbove(1), fromAbove(1, aStep("mode")), fromAbove(1, aStep("user")), fromRoot(aStep("user"))} {
		at := append(make([]string, 0, 8), "user")
		before := slices.Clone(at[:cap(at)])
		got, ok := impl.ResolvePath(l, at, p)
		if !ok {
			t.Errorf("%s does not resolve", shownPath(p))
		}
		for i := range got {
			got[i] = "changed"
		}
		_ = append(got, "behind", "behind")
		if !slices.Equal(at[:cap(at)], before) {
			t.Errorf("ResolvePath of %s shares memory with its argument: %q", shownPath(p), at[:cap(at)])
		}
	}
	at := append(make([]string, 0, 8), "user", "level")
	got, _ := impl.TargetOf(l, at, aRef("../name"))
	_ = append(got[:1], "changed")
	if !slices.Equal(at[:3], []string{"user", "level", ""}) {
		t.Errorf("TargetOf shares memory with its argument: %q", at[:3])
	}
}

func TestTargetsOfEveryKindOfType(t *testing.T) {
	l := village(t)
	for kind := -1; kind <= 8; kind++ {
		for _, path := range []string{"/user/name", "", "/mode", ".."} {
			for _, at := range [][]string{nil, {"mode"}, {"user", "name", "x"}} {
				ty := impl.Type{Kind: kind, Path: path}
				way, ok := targetByRules(l, at, ty)
				wantTargetResult(t, l, at, ty, way, ok)
				if ok && kind != impl.TyRef {
					t.Errorf("the kind %d has a target", kind)
				}
			}
		}
	}
	for _, ty := range append(someTypes(), wrongTypes()...) {
		if ty.Kind != impl.TyRef {
			wantTargetResult(t, l, nil, ty, nil, false)
			ty.Path = "/user/name"
			wantTargetResult(t, l, nil, ty, nil, false)
		}
	}
	wantTargetResult(t, l, nil, impl.Type{}, nil, false)
	for _, kind := range kindsThatAreNone() {
		wantTargetResult(t, l, nil, impl.Type{Kind: kind, Path: "/user/name"}, nil, false)
	}
}

func TestTargets(t *testing.T) {
	l := village(t)
	for _, c := range []struct{ at, path, want string }{
		{"chief", "/user/name", "user/name"}, {"chief", "../user/name", "user/name"}, {"chief", "../mode", "mode"}, {"chief", "../word", "word"}, {"", "word", "word"}, {"chief", "/user/tag", "user/tag"}, {"chief", "/user/home/room/chair", "user/home/room/chair"}, {"chief", "/pool/size", "pool/size"}, {"chief", "/vlan", "vlan"}, {"chief", "../port", "port"}, {"chief", "/user/vlan", "user/vlan"}, {"chief", "/user/more/item/id", "user/more/item/id"},
		{"user/level", "../name", "user/name"}, {"user/home/room/bed", "../../../level", "user/level"}, {"user/home/room/bed", "../../../../mode", "mode"}, {"way/to", "../name", "way/name"}, {"way/to", "../../user/name", "user/name"}, {"user", "name", "user/name"},
		// A leaf that is no reference may be the target of its own address.
		{"mode", "../mode", "mode"}, {"mode", "/mode", "mode"}, {"user/name", "../name", "user/name"},
		// Tests, blanks and remarks.
		{"chief", `/user[name="a"]/level`, "user/level"}, {"chief", `/user[level="1"][name="x y"]/tag`, "user/tag"}, {"chief", " / user / name ", "user/name"}, {"user/level", ".. /\n..\n/ mode", "mode"}, {"chief", "/user/name # the name", "user/name"}, {"chief", `/ user [ name = "a" ] / name`, "user/name"},
		// The path that just goes up, from below a leaf.
		{"user/name/x", "..", "user/name"}, {"mode/x/y", "../..", "mode"},
		// An address that is nowhere is not looked up.
		{"none", "/mode", "mode"}, {"none/none", "../../mode", "mode"}, {"user/none", "../name", "user/name"},
	} {
		wantTarget(t, l, c.at, c.path, c.want)
	}
	for _, c := range []struct{ at, path string }{
		// No path at all.
		{"chief", ""}, {"chief", " "}, {"chief", "#"}, {"chief", "user name"}, {"chief", "/user/"}, {"chief", "/user/Name"}, {"chief", "//"}, {"chief", "/user/../mode"}, {"chief", "/.."}, {"chief", "user/name]"}, {"chief", `/user[name=a]/name`}, {"chief", `/user[name="a"][name="a"]/name`}, {"chief", "\xff"}, {"chief", "7"}, {"chief", `"/mode"`}, {"chief", "/a/a/a/a/a/a/a/a/a/a/a"}, {"a/a/a/a/a/a/a/a/a", "../../../../../../../../../mode"},
		// The root, a box, a list.
		{"chief", "/"}, {"chief", ".."}, {"chief", "/user"}, {"chief", "../user"}, {"chief", "/empty"}, {"chief", "/user/home"}, {"chief", "/user/more/item"}, {"user/name", ".."}, {"user/home/door", ".."}, {"user/name", "../.."}, {"chief", "/pool"},
		// A choice, a case, nothing.
		{"chief", "/use"}, {"chief", "/use/flat/vlan"}, {"chief", "/flat/vlan"}, {"chief", "/none"}, {"chief", "/user/none"}, {"chief", "none"}, {"chief", "/mode/mode"}, {"chief", "mode"}, {"chief", "chief"}, {"", "none"}, {"user/level", "name"},
		// A reference, also to itself, and a flag.
		{"", "/chief"}, {"chief", "/chief"}, {"chief", "../chief"}, {"chief", "../chiefs"}, {"chiefs", "/chiefs"}, {"mode", "/chief"}, {"chief", "/way/to"}, {"chief", "/on"}, {"on", "../on"}, {"way/to", "../to"}, {"chief/x", ".."}, {"on/x", ".."},
		// Above the root.
		{"chief", "../../mode"}, {"chief", "../.."}, {"", ".."}, {"", "../mode"}, {"user/level", "../../../mode"}, {"user/level", "../../.."},
		// A test that names no leaf.
		{"chief", `/user[none="a"]/name`}, {"chief", `/user[tag="a"]/name`}, {"chief", `/user/name[name="a"]`}, {"chief", `/user[name="a"][home="b"]/level`},
		// An address that is nowhere.
		{"none", "mode"}, {"none", "name"}, {"user/none/x", "../name"}, {"none/x", ".."}, {"user/none/x", ".."}, {"user/sort/x", ".."},
	} {
		wantNoTarget(t, l, c.at, c.path)
	}
	wantNoTarget(t, nil, "", "/mode")
	wantNoTarget(t, nil, "", "/")
	wantNoTarget(t, nil, "a/b", "..")
}

// The type is a TyRef by its Kind; nothing else of it is asked but the Path.
func TestTargetsOfTypesThatAreNotValid(t *testing.T) {
	l := []impl.Schema{aBox("a", aLeaf("b"), aLeaf("c"), aLeaf("d"), aLeaf("e"))}
	long := `/a[b="something"][c="something"][d="something"]/e`
	if impl.IsText(long) {
		t.Error(len(long))
	}
	wantTarget(t, l, "", long, "a/e")
	wantTarget(t, l, "", "/a\n/e", "a/e")
	more := impl.Type{Kind: impl.TyRef, Path: "/a/b", Ranges: []impl.Range{span(5, 1)}, Names: []string{"A"}, Pattern: "("}
	wantTargetResult(t, l, nil, more, []string{"a", "b"}, true)
}

func TestTargetsInSchemasThatAreNotValid(t *testing.T) {
	for kind, n := range oneOfEveryKind() {
		for _, ty := range append(append(someTypes(), wrongTypes()...), impl.Type{}) {
			n.Name, n.Type = "n", ty
			isTarget := (kind == impl.NdLeaf || kind == impl.NdMany) && ty.Kind != impl.TyRef && ty.Kind != impl.TyFlag
			for _, home := range [][]impl.Schema{{n}, {aChoice("c", aCase("d", n))}, {n, aLeaf("n")}} {
				got, ok := impl.TargetOf(home, nil, aRef("/n"))
				if isFirst := len(home) < 2 || n.Kind >= impl.NdBox && n.Kind <= impl.NdMany; ok != isTarget && isFirst || ok && !slices.Equal(got, []string{"n"}) {
					t.Errorf("TargetOf(%s) = %q, %t", shownSchemas(home), got, ok)
				}
			}
		}
	}
	wantTarget(t, []impl.Schema{aLeaf("n"), aLeafOf("n", aFlag())}, "", "/n", "n")
	wantNoTarget(t, []impl.Schema{aLeafOf("n", aFlag()), aLeaf("n")}, "", "/n")
	wantNoTarget(t, []impl.Schema{aBox("n"), aLeaf("n")}, "", "/n")
	wantTarget(t, []impl.Schema{aChoice("n", aCase("n")), aLeaf("n")}, "", "/n", "n")
}

func TestSchemasThatAreFine(t *testing.T) {
	wantCheck(t, nil, impl.ChFine)
	wantCheck(t, []impl.Schema{}, impl.ChFine)
	wantCheck(t, village(t), impl.ChFine)
	for _, n := range oneOfEveryKind()[1:impl.NdCase] {
		wantCheck(t, oneSchema(n), impl.ChFine)
	}
	wantNodesFine(t, strings.Join([]string{
		`leaf mode { type enum on off; must ../level < 8 or not(count(/user[name="a"]/tag) = 0); must ..; must count(/) and ../mode = "on"; }`,
		`list user { key name; when /mode = "on"; must name and ../level > level; leaf name { type text; } leaf level { type int; when ../name; must ../../mode or /level = 1; } many tag { type ref "../name"; must ../../user; } }`,
		`leaf level { type int; when 1; }`,
		`choice use { when mode = "on"; case flat { when user/level or /level; leaf vlan { type int; must ../pool/size; } }`,
		`case deep { when level = count(user) and vlan; box pool { when ..; must vlan and size; leaf vlan { type ref "../../vlan"; } leaf size { type int; when ../../pool/vlan; } } } }`,
		`many ids { type ref "/user[level=\"1\"]/name"; when ../ids; }`,
	}, "\n"))
}

func TestSchemasThatAreNotValidAreNotChecked(t *testing.T) {
	bad := []impl.Expr{exName("none")}
	for _, more := range [][]impl.Schema{nil, {aLeafOf("ref", aRef("/none"))}, {{Kind: impl.NdBox, Name: "bad", When: bad, Must: bad}}} {
		for _, n := range []impl.Schema{aLeaf("A"), aLeafOf("s", impl.Type{}), aLeafOf("s", aRef("")), aUses("s"), {Kind: 8, Name: "s"}, {}, aListOf(nil), aBox("s", aLeaf("t"), aLeaf("t")), {Kind: impl.NdBox, Name: "s", Fixed: true}, aGiven("s", anInt(), "x"), {Kind: impl.NdBox, Name: "s", When: append(bad, bad...)}, {Kind: impl.NdChoice, Name: "s", Must: bad}, {Kind: impl.NdBox, Name: "s", Must: []impl.Expr{exPath(fromRoot())}}, {Kind: impl.NdBox, Name: "s", Type: aRef("/none")}} {
			for _, home := range homes(n) {
				wantCheck(t, append(slices.Clone(more), home...), impl.ChSchema)
				wantCheck(t, append(slices.Clone(home), more...), impl.ChSchema)
			}
		}
	}
	wantCheck(t, leaves(impl.MaxNodes), impl.ChFine)
	wantCheck(t, leaves(impl.MaxNodes+1), impl.ChSchema)
	wantCheck(t, below(slices.Repeat([]int{impl.NdBox}, impl.MaxDeep)), impl.ChFine)
	wantCheck(t, below(slices.Repeat([]int{impl.NdBox}, impl.MaxDeep+1)), impl.ChSchema)
	wantCheck(t, oneSchema(fullSchema(2)), impl.ChSchema)
	wantNodesChecked(t, "uses g;", impl.ChSchema, "")
	wantNodesChecked(t, "leaf a { type int; when ../none; } leaf b { type int; } box b;", impl.ChSchema, "")
}

// A checkHome is a place for nodes, with the address of the data node above it.
type checkHome struct{ text, at string }

func checkHomes() []checkHome {
	return []checkHome{
		{"%s", ""}, {"leaf first { type int; } %s many last { type text; }", ""}, {"box up { %s }", "up"}, {"list up { key k; leaf k { type int; } %s }", "up"}, {"box side { box up; } box up { box side; %s }", "up"},
		{"choice up { case low { %s } }", ""}, {"choice up { case also { box side; } case low { leaf first { type int; } %s } case last; }", ""}, {"box up { choice up { case low { %s } } }", "up"}, {"list up { key k; choice mid { case low { choice in { case out { %s } } } } leaf k { type int; } }", "up"},
		{"box up { list mid { key k; leaf k { type int; } box low { %s } } }", "up/mid/low"}, {"box up { choice mid { case in { box low { choice out { case last { list end { key k; leaf k { type int; } %s } } } } } } }", "up/low/end"}, {"box a { box b { box c { box d { box e { box f { %s } } } } } }", "a/b/c/d/e/f"},
	}
}

// wantAtHomes is for nodes at every home where they are not too deep; the address
// is that below the home.
func wantAtHomes(t *testing.T, nodes string, code int, at string) {
	t.Helper()
	count := 0
	for _, home := range checkHomes() {
		m, ok := impl.ParseModule("module m { " + fmt.Sprintf(home.text, nodes) + " }")
		if !ok || !impl.IsSchema(m.Body) {
			continue
		}
		count++
		want := append(address(home.at), address(at)...)
		if code == impl.ChFine {
			want = nil
		}
		wantCheck(t, m.Body, code, want...)
	}
	if count < 7 {
		t.Errorf("there are just %d homes for %s", count, nodes)
	}
}

func TestEveryCodeAtEveryPlace(t *testing.T) {
	wantAtHomes(t, "leaf x { type int; when none; }", impl.ChWhen, "x")
	wantAtHomes(t, "leaf x { type int; must none; }", impl.ChMust, "x")
	wantAtHomes(t, "leaf x { type ref \"/none\"; }", impl.ChRef, "x")
	wantAtHomes(t, "many x { type int; when none; }", impl.ChWhen, "x")
	wantAtHomes(t, "many x { type int; must none; }", impl.ChMust, "x")
	wantAtHomes(t, "many x { type ref \"/none\"; }", impl.ChRef, "x")
	wantAtHomes(t, "box x { when none; }", impl.ChWhen, "x")
	wantAtHomes(t, "box x { must none; }", impl.ChMust, "x")
	wantAtHomes(t, "list x { key l; when none; leaf l { type int; } }", impl.ChWhen, "x")
	wantAtHomes(t, "list x { key l; must none; leaf l { type int; } }", impl.ChMust, "x")
	wantAtHomes(t, "list x { key l; leaf l { type ref \"/none\"; } }", impl.ChRef, "x/l")
	wantAtHomes(t, "choice x { when none; }", impl.ChWhen, "")
	wantAtHomes(t, "choice x { case y { when none; } }", impl.ChWhen, "")
	wantAtHomes(t, "choice x { case y; case z { when none; } }", impl.ChWhen, "")
	wantAtHomes(t, "leaf x { type int; when ../x; must ../x; must ..; must count(/) > ../x; }", impl.ChFine, "")
	wantAtHomes(t, "many x { type ref \"../y\"; when ../y; must ../x; } leaf y { type int; }", impl.ChFine, "")
}

// Each expression is taken at the address of its own node: what is a path there
// is none at the address above it, and none below it.
func TestWhereExpressionsAreTaken(t *testing.T) {
	const kids = "leaf in { type int; }"
	for _, rule := range []string{"when", "must"} {
		code := map[string]int{"when": impl.ChWhen, "must": impl.ChMust}[rule]
		for _, head := range []string{"box x { %s %s }", "list x { key in; %s %s }"} {
			for path, isFine := range map[string]bool{"in": true, "../x/in": true, "../out": true, "../x": true, "..": true, "../in": false, "out": false, "x": false, "x/in": false, "../../out": false} {
				want, at := code, "x"
				if isFine {
					want, at = impl.ChFine, ""
				}
				node := fmt.Sprintf(head, rule+" "+path+";", kids)
				wantNodesChecked(t, node+" leaf out { type int; }", want, at)
				if path != "../../out" {
					wantAtHomes(t, node+" leaf out { type int; }", want, at)
				}
			}
		}
		for _, head := range []string{"leaf x { type int; %s }", "many x { type int; %s }"} {
			for path, isFine := range map[string]bool{"../x": true, "../out": true, "..": true, "out": false, "x": false, "../none": false, "../out/out": false} {
				want, at := code, "x"
				if isFine {
					want, at = impl.ChFine, ""
				}
				wantAtHomes(t, fmt.Sprintf(head, rule+" "+path+";")+" leaf out { type int; }", want, at)
			}
		}
	}
}

func TestWhereExpressionsOfChoicesAndCasesAreTaken(t *testing.T) {
	const inner, beside = "leaf in { type int; } box low; ", "leaf out { type int; }"
	for _, node := range []string{"choice x { when %s; case y { " + inner + "} case z; }", "choice x { case y { when %s; " + inner + "} case z; }", "choice x { case z; case y { choice x { when %s; case y { " + inner + "} } } }", "choice x { case z { choice a { case c { when %s; " + inner + "} case y; } } }"} {
		for path, isFine := range map[string]bool{"in": true, "out": true, "low": true, "count(low)": true, "x": false, "y": false, "x/y/in": false, "y/in": false, "../in": false, "z": false, "none": false, "in/out": false} {
			code := impl.ChWhen
			if isFine {
				code = impl.ChFine
			}
			wantAtHomes(t, fmt.Sprintf(node, path)+beside, code, "")
		}
		// At the top, the address is that of the root.
		wantNodesChecked(t, fmt.Sprintf(node, "..")+beside, impl.ChWhen, "")
		wantNodesChecked(t, fmt.Sprintf(node, "../out")+beside, impl.ChWhen, "")
		wantNodesFine(t, "box up { "+fmt.Sprintf(node, "..")+beside+" }")
		wantNodesFine(t, "box up { "+fmt.Sprintf(node, "../top")+beside+" } leaf top { type int; }")
		wantNodesChecked(t, "box up { "+fmt.Sprintf(node, "../..")+beside+" }", impl.ChWhen, "up")
		wantNodesFine(t, "leaf a { type int; } choice u { case v { list up { key out; "+fmt.Sprintf(node, "../a")+beside+" } } }")
		wantNodesChecked(t, "leaf a { type int; } choice u { case v { list up { key out; "+fmt.Sprintf(node, "../../a")+beside+" } } }", impl.ChWhen, "up")
	}
	// A data node in a case is at an address of its own.
	wantAtHomes(t, "choice x { case y { leaf in { type int; when ../out; must ../in; } } } leaf out { type int; }", impl.ChFine, "")
	wantAtHomes(t, "choice x { case y { leaf in { type int; when out; } } } leaf out { type int; }", impl.ChWhen, "in")
	wantAtHomes(t, "choice x { case y { box in { must ../out and out; } } } leaf out { type int; }", impl.ChMust, "in")
	wantAtHomes(t, "choice x { case y { many in { type ref \"../out\"; } } } leaf out { type int; }", impl.ChFine, "")
	wantAtHomes(t, "choice x { case y { many in { type ref \"../../out/out\"; } } } leaf out { type int; }", impl.ChRef, "in")
}

// All that may be wrong with one node, together: When before Must before the type.
func TestSeveralFaultsOfOneNode(t *testing.T) {
	ways := map[bool]string{true: "..", false: "../none"}
	for _, head := range []string{"leaf", "many"} {
		for count := range 8 {
			when, must, ref := count&1 == 0, count&2 == 0, count&4 == 0
			code := impl.ChFine
			switch {
			case !when:
				code = impl.ChWhen
			case !must:
				code = impl.ChMust
			case !ref:
				code = impl.ChRef
			}
			target := map[bool]string{true: "../to", false: "../none"}[ref]
			at := map[bool]string{true: "", false: "x"}[code == impl.ChFine]
			wantAtHomes(t, fmt.Sprintf("%s x { type ref %q; when %s; must %s; } leaf to { type int; }", head, target, ways[when], ways[must]), code, at)
		}
	}
	wantAtHomes(t, "box x { when none; must none; leaf y { type ref \"none\"; } }", impl.ChWhen, "x")
	wantAtHomes(t, "box x { when ..; must none; leaf y { type ref \"none\"; } }", impl.ChMust, "x")
	wantAtHomes(t, "list x { key y; when none; must none; leaf y { type ref \"none\"; } }", impl.ChWhen, "x")
	wantAtHomes(t, "list x { key y; must none; leaf y { type ref \"none\"; } }", impl.ChMust, "x")
}

// Two nodes, each with one thing wrong or nothing, above, below and beside each
// other: the first one counts, whatever its code.
func TestTheFirstNodeThatIsWrong(t *testing.T) {
	props := map[int]string{impl.ChFine: "type int;", impl.ChWhen: "type int; when none;", impl.ChMust: "type int; must none;", impl.ChRef: "type ref \"none\";"}
	rules := map[int]string{impl.ChFine: "", impl.ChWhen: "when none;", impl.ChMust: "must none;"}
	const last = " leaf last { type int; when none; must none; }"
	for second, inner := range props {
		for first, outer := range props {
			for form, ways := range map[string][2]string{
				"leaf a { %s } leaf b { %s }":                                                 {"a", "b"},
				"many a { %s } box x { leaf b { %s } }":                                       {"a", "x/b"},
				"box x { leaf a { %s } } leaf b { %s }":                                       {"x/a", "b"},
				"box x { box y { many a { %s } } } box z { leaf b { %s } }":                   {"x/y/a", "z/b"},
				"choice x { case y { leaf a { %s } } case z { leaf b { %s } } }":              {"a", "b"},
				"box w { choice x { case y { leaf a { %s } } } } leaf b { %s }":               {"w/a", "b"},
				"list x { key k; leaf k { type int; } leaf a { %s } many b { %s } }":          {"x/a", "x/b"},
				"leaf a { %s } choice x { case y { choice z { case w { leaf b { %s } } } } }": {"a", "b"},
			} {
				text := fmt.Sprintf(form, outer, inner)
				switch {
				case first != impl.ChFine:
					wantNodesChecked(t, text+last, first, ways[0])
				case second != impl.ChFine:
					wantNodesChecked(t, text+last, second, ways[1])
				default:
					wantNodesChecked(t, text, impl.ChFine, "")
					wantNodesChecked(t, text+last, impl.ChWhen, "last")
				}
			}
		}
		for first, outer := range rules {
			for form, ways := range map[string][2]string{
				"box x { %s leaf b { %s } }":                                      {"x", "x/b"},
				"list x { key k; %s leaf k { type int; } leaf b { %s } }":         {"x", "x/b"},
				"box x { box y { %s box z { leaf b { %s } } } }":                  {"x/y", "x/y/z/b"},
				"box w { choice x { %s case y { leaf b { %s } } } }":              {"w", "w/b"},
				"box w { choice x { case v; case y { %s leaf b { %s } } } }":      {"w", "w/b"},
				"box w { choice x { case y { choice z { %s } leaf b { %s } } } }": {"w", "w/b"},
			} {
				if first == impl.ChMust && strings.Contains(form, "choice") {
					continue // They have no must.
				}
				text := fmt.Sprintf(form, outer, inner)
				switch {
				case first != impl.ChFine:
					wantNodesChecked(t, text+last, first, ways[0])
				case second != impl.ChFine:
					wantNodesChecked(t, text+last, second, ways[1])
				default:
					wantNodesChecked(t, text, impl.ChFine, "")
					wantNodesChecked(t, text+last, impl.ChWhen, "last")
				}
			}
		}
	}
	// A choice before its cases, a case before its kids.
	wantNodesChecked(t, "box a { choice x { when none; case y { when none; leaf b { type ref \"none\"; } } } }", impl.ChWhen, "a")
	wantNodesChecked(t, "box a { choice x { case y { when none; leaf b { type ref \"none\"; } } } } leaf c { type int; must none; }", impl.ChWhen, "a")
	wantNodesChecked(t, "box a { choice x { case y { leaf b { type ref \"none\"; } } case z { when none; } } }", impl.ChRef, "a/b")
}

func TestTheMustThatIsWrong(t *testing.T) {
	for count := 1; count <= impl.MaxMust; count++ {
		for wrong := range count + 1 {
			rules := slices.Repeat([]string{"must ..; "}, count)
			code, at := impl.ChFine, ""
			if wrong < count {
				rules[wrong], code, at = "must ../none; ", impl.ChMust, "x"
			}
			text := strings.Join(rules, "")
			wantAtHomes(t, "leaf x { type int; "+text+"}", code, at)
			wantAtHomes(t, "many x { type text; when ..; "+text+"}", code, at)
			wantAtHomes(t, "box x { "+text+"}", code, at)
			wantAtHomes(t, "list x { key l; "+text+"leaf l { type int; } }", code, at)
		}
	}
}

// wantRules is for an expression at every place where one may be.
func wantRules(t *testing.T, isFine bool, e impl.Expr) {
	t.Helper()
	for code, n := range map[int]impl.Schema{impl.ChWhen: {Kind: impl.NdBox, Name: "x", When: []impl.Expr{e}}, impl.ChMust: {Kind: impl.NdBox, Name: "x", Must: []impl.Expr{exNum(1), e}}} {
		n.Kids = []impl.Schema{aLeaf("a"), aLeaf("b"), aBox("c", aLeaf("d"))}
		if isFine {
			wantCheck(t, []impl.Schema{aLeaf("top"), n}, impl.ChFine)
		} else {
			wantCheck(t, []impl.Schema{aLeaf("top"), n}, code, "x")
		}
	}
}

func TestPathsInEveryPartOfAnExpression(t *testing.T) {
	good, bad := []impl.Expr{exName("a"), exName("c", "d"), exCount(fromAbove(1)), exPath(fromRoot(aStep("top"))), exCount(fromRoot())}, []impl.Expr{exName("none"), exName("c", "a"), exCount(fromAbove(2)), exPath(fromRoot(aStep("a"))), exCount(fromHere(aStep("x")))}
	plain := []impl.Expr{exNum(0), exText("none"), exText(""), exNum(impl.MaxNumber)}
	for _, e := range append(slices.Clone(good), plain...) {
		wantRules(t, true, e)
		wantRules(t, true, exNot(e))
		for _, x := range bad {
			wantRules(t, false, x)
			wantRules(t, false, exNot(x))
			for op := impl.ExOr; op <= impl.ExSub; op++ {
				wantRules(t, false, exOf(op, x, e))
				wantRules(t, false, exOf(op, e, x))
			}
		}
		for _, y := range plain {
			for op := impl.ExOr; op <= impl.ExSub; op++ {
				wantRules(t, true, exOf(op, e, y))
			}
		}
	}
	for depth := 1; depth <= impl.MaxDeep; depth++ {
		for _, way := range []string{"not", "left", "right"} {
			wantRules(t, true, chain(way, depth-1, good[1]))
			wantRules(t, false, chain(way, depth-1, bad[1]))
			wantRules(t, false, chain(way, depth-1, bad[2]))
		}
		leaves := make([]impl.Expr, 1<<(depth-1))
		for place := range leaves {
			for i := range leaves {
				leaves[i] = good[i%len(good)]
			}
			wantRules(t, true, fullExpr(depth, leaves...))
			leaves[place] = bad[place%len(bad)]
			if place < 3 || place > len(leaves)-3 || place%17 == 0 {
				wantRules(t, false, fullExpr(depth, leaves...))
			}
		}
	}
}

func TestTestsInCheckedPaths(t *testing.T) {
	const user = " list user { key name; leaf name { type text; } leaf level { type int; } many tag { type int; } box home { leaf door { type int; } } }"
	for path, isFine := range map[string]bool{
		`/user[name="a"]/level`: true, `/user[name="a"][level="x"]/tag`: true, `/user/home[door="1"]`: true, `/user[level=""]/home[door="1"]/door`: true,
		`/user[tag="1"]/level`: false, `/user[home="1"]/level`: false, `/user[none="1"]/level`: false, `/user/level[level="1"]`: false, `/user[name="a"][none="b"]/level`: false, `/user/home[name="a"]/door`: false,
	} {
		isTarget := isFine && !strings.HasSuffix(path, "]")
		for node, code := range map[string]int{"leaf x { type int; when %s; }": impl.ChWhen, "leaf x { type int; must count(%s) = 1; }": impl.ChMust, "box x { when 1 = %s; }": impl.ChWhen} {
			if isFine {
				wantNodesFine(t, fmt.Sprintf(node, path)+user)
			} else {
				wantNodesChecked(t, fmt.Sprintf(node, path)+user, code, "x")
			}
		}
		for _, kind := range []string{"leaf", "many"} {
			text := fmt.Sprintf("%s x { type ref %q; }%s", kind, path, user)
			if isTarget {
				wantNodesFine(t, text)
			} else {
				wantNodesChecked(t, text, impl.ChRef, "x")
			}
		}
	}
}

func TestReferencesAreChecked(t *testing.T) {
	const around = " leaf num { type int; } many words { type text; } leaf flag { type flag; } many flags { type flag; } leaf ref { type ref \"../num\"; } box low { leaf in { type bool; } } list users { key name; leaf name { type text; } }"
	for path, isFine := range map[string]bool{
		"../num": true, "../words": true, "../low/in": true, "../users/name": true, " .. / num ": true, `../users[name=\"a\"]/name`: true,
		"../flag": false, "../flags": false, "../ref": false, "../x": false, "../low": false, "../users": false, "..": false, "/": false, "num": false, "../none": false, "../low/num": false, "../ num num": false, "Num": false, "../../../../../../../../num": false, " ": false, "x": false,
	} {
		for _, kind := range []string{"leaf", "many"} {
			code, at := impl.ChRef, "x"
			if isFine {
				code, at = impl.ChFine, ""
			}
			wantAtHomes(t, fmt.Sprintf("%s x { type ref \"%s\"; }%s", kind, path, around), code, at)
		}
	}
	// References in a ring, and in a row.
	wantAtHomes(t, "leaf a { type ref \"../b\"; } leaf b { type ref \"../a\"; }", impl.ChRef, "a")
	wantAtHomes(t, "leaf c { type int; } leaf b { type ref \"../c\"; } leaf a { type ref \"../b\"; }", impl.ChRef, "a")
	// The key of a list may refer to that of another one.
	wantAtHomes(t, "list x { key y; leaf y { type ref \"../../z/w\"; } } list z { key w; leaf w { type int; } }", impl.ChFine, "")
	wantAtHomes(t, "list x { key y; leaf y { type ref \"../../z/w\"; } } list z { key w; leaf w { type ref \"../../x/y\"; } }", impl.ChRef, "x/y")
	// Types of other kinds have no path to be checked.
	for _, ty := range someTypes() {
		if ty.Kind != impl.TyRef {
			many := aMany("b")
			many.Type = ty
			wantCheck(t, []impl.Schema{aLeafOf("a", ty), many}, impl.ChFine)
		}
	}
}

// A reference with a default is one as well.
func TestReferencesWithDefaults(t *testing.T) {
	wantCheck(t, []impl.Schema{aGiven("a", aRef("/b"), "x"), aLeaf("b")}, impl.ChFine)
	wantCheck(t, []impl.Schema{aGiven("a", aRef("/c"), "x"), aLeaf("b")}, impl.ChRef, "a")
}

// mixedRules is a schema, mostly valid, whose expressions and types mostly
// resolve; it is the same in each run.
func mixedRules(seed uint64) []impl.Schema {
	b := &builder{source: rand.New(rand.NewPCG(seed, 13)), room: 40}
	l := b.nodes(2 + int(seed%6))
	for i, n := range everyNode(l) {
		n.When, n.Must, n.Given, n.Default = nil, nil, false, ""
		if n.Name != "k" && n.Name != "l" {
			n.Name = string(rune('a'+i%9)) + impl.FormatInt(i)
		}
		if n.Type.Kind == impl.TyRef {
			n.Type = anInt()
		}
	}
	all := addresses(l)
	for i, p := range everyPlaced(l) {
		n := everyNode(l)[i]
		if b.oneIn(4) && n.Name != "k" && n.Name != "l" {
			n.When = []impl.Expr{b.ruleAt(addressByRules(p), all)}
		}
		for range b.source.IntN(impl.MaxMust+1) * b.source.IntN(2) {
			if n.Kind <= impl.NdMany {
				n.Must = append(n.Must, b.ruleAt(addressByRules(p), all))
			}
		}
		if (n.Kind == impl.NdLeaf || n.Kind == impl.NdMany) && b.oneIn(6) {
			n.Type = aRef(impl.FormatPath(b.pathTo(addressByRules(p), b.someTarget(l, all))))
		}
	}
	if b.oneIn(8) {
		b.change(l)
	}
	return l
}

// someTarget is mostly the address of a leaf or many that a reference may have.
func (b *builder) someTarget(l []impl.Schema, all [][]string) []string {
	targets := slices.DeleteFunc(slices.Clone(all), func(at []string) bool {
		n := nodesByAddress(l)[keyOf(at)]
		return n.Kind != impl.NdLeaf && n.Kind != impl.NdMany || n.Type.Kind == impl.TyRef || n.Type.Kind == impl.TyFlag
	})
	if len(targets) == 0 || b.oneIn(15) {
		targets = all
	}
	return targets[b.source.IntN(len(targets))]
}

// pathTo mostly leads from an address to another one.
func (b *builder) pathTo(at []string, to []string) impl.Path {
	same := 0
	for same < min(len(at), len(to)) && at[same] == to[same] {
		same++
	}
	if b.oneIn(3) {
		same = b.source.IntN(same + 1)
	}
	p := fromAbove(len(at)-same, stepsTo(to[same:])...)
	if b.oneIn(3) || !impl.IsPath(p) {
		p = fromRoot(stepsTo(to)...)
	}
	if len(p.Steps) > 0 && b.oneIn(25) {
		p.Steps[b.source.IntN(len(p.Steps))].Name = "none"
	}
	if !p.Root && p.Ups < impl.MaxUps && b.oneIn(25) {
		p.Ups++
	}
	if len(p.Steps) > 0 && b.oneIn(12) {
		s := &p.Steps[b.source.IntN(len(p.Steps))]
		s.Tests = append(s.Tests, aTest([]string{"k", "l", "none"}[b.source.IntN(3)], "1"))
	}
	return p
}

// ruleAt has one path or two.
func (b *builder) ruleAt(at []string, all [][]string) impl.Expr {
	one := func() impl.Expr {
		p := b.pathTo(at, all[b.source.IntN(len(all))])
		if len(p.Steps) > 0 && b.oneIn(2) {
			return exPath(p)
		}
		return exCount(p)
	}
	switch b.source.IntN(4) {
	case 0:
		return exNot(one())
	case 1:
		return exOf(impl.ExOr+b.source.IntN(10), one(), exNum(1))
	case 2:
		return exOf(impl.ExOr+b.source.IntN(10), one(), one())
	}
	return one()
}

func TestMixedSchemasAreCheckedAsTheRulesSay(t *testing.T) {
	codes := map[int]int{}
	for seed := range uint64(2500) {
		l := mixedRules(seed)
		code, at := checkedByRules(l)
		wantCheck(t, l, code, at...)
		codes[code]++
		b := &builder{source: rand.New(rand.NewPCG(seed, 14))}
		all := addresses(l)
		from, to := all[b.source.IntN(len(all))], all[b.source.IntN(len(all))]
		p := b.pathTo(from, to)
		way, ok := resolvedByRules(l, from, p)
		wantResolution(t, l, from, p, way, ok)
		ty := aRef(impl.FormatPath(b.pathTo(from, b.someTarget(l, all))))
		way, ok = targetByRules(l, from, ty)
		wantTargetResult(t, l, from, ty, way, ok)
		if t.Failed() {
			return
		}
	}
	for code := impl.ChFine; code <= impl.ChRef; code++ {
		if codes[code] < 100 {
			t.Errorf("the code %d is that of %d schemas", code, codes[code])
		}
	}
}

func TestLongResolutionsEnd(t *testing.T) {
	// No argument may lead to so many calls within calls that they break off.
	defer debug.SetMaxStack(debug.SetMaxStack(1 << 24))
	ways := append(everyStart(aStep("a")), append(everyStart(aStep("a", aTest("b", "c")), aStep("a")), fromRoot(), fromAbove(3))...)
	inTime(t, "schemas that lie within themselves", func() {
		for i, l := range endlessSchemas() {
			if code, at := impl.CheckSchema(l); code != impl.ChSchema || len(at) > 0 {
				t.Errorf("the schema %d, which has no end, gives %d", i, code)
			}
			for _, at := range [][]string{nil, {"a"}, {""}, {"x", "a"}, slices.Repeat([]string{"a"}, 1000)} {
				for _, p := range ways {
					got, ok := impl.ResolvePath(l, at, p)
					target, isTarget := impl.TargetOf(l, at, aRef(impl.FormatPath(p)))
					if !ok && len(got) > 0 || !isTarget && len(target) > 0 || isTarget && !slices.Equal(got, target) {
						t.Errorf("wrong about the schema %d, which has no end: %d names, %t, %d names, %t", i, len(got), ok, len(target), isTarget)
					}
				}
			}
		}
	})
	inTime(t, "deep schemas and long addresses", func() {
		const depth = 100000
		for kind := impl.NdBox; kind <= impl.NdUses; kind++ {
			l := oneSchema(schemaWithin(kind, depth))
			isThere := kind != impl.NdUses
			if code, at := impl.CheckSchema(l); code != impl.ChSchema || len(at) > 0 {
				t.Errorf("a deep schema gives %d", code)
			}
			if got, ok := impl.ResolvePath(l, nil, fromRoot(aStep("a"))); ok != isThere || ok && !slices.Equal(got, []string{"a"}) {
				t.Errorf("/a in a deep schema of the kind %d gives %t", kind, ok)
			}
			long := slices.Repeat([]string{"a"}, depth)
			isDeep := kind <= impl.NdMany
			if got, ok := impl.ResolvePath(l, long, fromHere(aStep("a"))); ok != isDeep || ok && len(got) != depth+1 {
				t.Errorf("a far below the top of a deep schema of the kind %d gives %t", kind, ok)
			}
			if got, ok := impl.TargetOf(l, long, aRef("a")); ok != isDeep || ok && len(got) != depth+1 {
				t.Errorf("the target a far below the top of a deep schema of the kind %d gives %t", kind, ok)
			}
			if got, ok := impl.ResolvePath(l, long, fromAbove(8)); !ok || len(got) != depth-8 {
				t.Errorf("eight above a long address gives %t", ok)
			}
		}
	})
	inTime(t, "long paths and types", func() {
		l := oneSchema(aBox("a", aLeaf("b")))
		long := strings.Repeat("a", 1000000)
		many := fromRoot(slices.Repeat([]impl.Step{aStep("a")}, 1000000)...)
		tests := fromRoot(aStep("a", slices.Repeat([]impl.Test{aTest("b", "c")}, 1000000)...))
		for _, p := range []impl.Path{many, tests, fromRoot(aStep(long)), fromRoot(aStep("a", aTest(long, "c"))), fromRoot(aStep("a", aTest("b", long)))} {
			if got, ok := impl.ResolvePath(l, nil, p); ok || len(got) > 0 {
				t.Errorf("a long path gives %t", ok)
			}
		}
		for _, path := range []string{long, strings.Repeat("../", 300000) + "a", strings.Repeat("/a", 300000), strings.Repeat("(", 300000), strings.Repeat("a[b=\"c\"]", 300000)} {
			if got, ok := impl.TargetOf(l, nil, aRef(path)); ok || len(got) > 0 {
				t.Errorf("a long path of a type gives %t", ok)
			}
		}
	})
	inTime(t, "as many expressions as there may be", func() {
		full := fullExpr(impl.MaxDeep, exPath(fromRoot(stepsTo(slices.Repeat([]string{"a"}, 7))...)))
		l := leaves(impl.MaxNodes - 8)
		for range 7 {
			l = oneSchema(aBox("a", l...))
		}
		for _, n := range everyNode(l) {
			n.Must = slices.Repeat([]impl.Expr{full}, impl.MaxMust)
		}
		if code, at := impl.CheckSchema(l); code != impl.ChFine || len(at) > 0 {
			t.Errorf("many expressions give %d, %q", code, at)
		}
	})
}
