package audit_test

import (
	"math"
	"slices"
	"strconv"
	"strings"
	"testing"

	"scutage/api"
	"scutage/audit"
	"scutage/scope"
	"scutage/tree"
	"scutage/vector"
)

const (
	long24 = "abcdefghijklmnopqrstuvwx"
	most   = "cpu=9223372036854775807"
)

// pod is an object of a space, with a class, if there is one, `!` behind it where it is terminating, and `*` where it is best.
func pod(space, name, class, charge string) api.Object {
	l, e := vector.Parse(charge)
	if e != api.OK {
		panic(charge)
	}
	o := api.Object{Key: api.Key{Space: space, Kind: "pod", Name: name}, Version: 1, Charge: l}
	o.Terminating, o.Best = strings.Contains(class, "!"), strings.Contains(class, "*")
	o.Class = strings.Trim(class, "!*")
	return o
}

// with is an object, changed, with a list of its own.
func with(o api.Object, change func(o *api.Object)) api.Object {
	o.Charge = slices.Clone(o.Charge)
	change(&o)
	return o
}

// scopesOf are those of these texts.
func scopesOf(t *testing.T, texts ...string) []api.Scope {
	t.Helper()
	var l []api.Scope
	for _, text := range texts {
		s, e := scope.Parse(text)
		if e != api.OK {
			t.Fatalf("%s: %d", text, e)
		}
		l = append(l, s)
	}
	return l
}

// treeOf is a tree of nodes, each as it, `/`, and its parent.
func treeOf(t *testing.T, nodes ...string) *tree.Tree {
	t.Helper()
	x := tree.New()
	for _, node := range nodes {
		name, parent, _ := strings.Cut(node, "/")
		if e := x.Create(name, parent); e != api.OK {
			t.Fatalf("%s: %d", node, e)
		}
	}
	return x
}

// counted is a table, of scopes of these texts, and the model of it; both are held against each other, and the table against what P14.2 says.
func counted(t *testing.T, x *tree.Tree, texts []string, objects ...api.Object) (*audit.Table, *model) {
	t.Helper()
	scopes := scopesOf(t, texts...)
	f, e := audit.Full(scopes, objects, x)
	if f == nil || e != api.OK {
		t.Fatalf("Full: %d", e)
	}
	m := modelOf(scopes, objects, x)
	holds(t, f, m)
	down(t, f, x, len(scopes))
	return f, m
}

// tells asks for a space, with a number: its own sum, all of it, and whether it is over.
func tells(t *testing.T, f *audit.Table, space string, i int, own, all string, over bool) {
	t.Helper()
	if o, a, v := told(f.Own(space, i)), told(f.All(space, i)), f.Over(space, i); o != own || a != all || v != over {
		t.Errorf("%q, %d: own %q, all %q, over %v, not %q, %q, %v", space, i, o, a, v, own, all, over)
	}
}

// refuses counts what must answer an error, and no table.
func refuses(t *testing.T, want api.Errno, scopes []api.Scope, objects []api.Object, x *tree.Tree) {
	t.Helper()
	if f, e := audit.Full(scopes, objects, x); f != nil || e != want {
		t.Errorf("%+v of %+v: %v %d, not %d", objects, scopes, f, e, want)
	}
}

// P14.1: own of each space, all of each node.
func TestOwnAndAll(t *testing.T) {
	x := treeOf(t, "a/root", "b/a", "c/root", "d/b")
	f, _ := counted(t, x, []string{"all"},
		pod("a", "x", "", "cpu=1"), pod("a", "y", "high", "mem=5"), pod("b", "x", "!", "cpu=10"),
		pod("c", "x", "*", "cpu=100,zero=0"), pod("d", "x", "", "cpu=1000,disk=7"), pod("d", "y", "", "objects=3"))
	tells(t, f, "d", 0, "cpu=1000,disk=7,objects=5", "cpu=1000,disk=7,objects=5", false)
	tells(t, f, "b", 0, "cpu=10,objects=1", "cpu=1010,disk=7,objects=6", false)
	tells(t, f, "a", 0, "cpu=1,mem=5,objects=2", "cpu=1011,disk=7,mem=5,objects=8", false)
	tells(t, f, "c", 0, "cpu=100,objects=1", "cpu=100,objects=1", false)
	tells(t, f, "root", 0, "", "cpu=1111,disk=7,mem=5,objects=9", false)
}

// P14.1: a table of the root's own objects, too, and of nodes between that have none.
func TestNodesWithoutObjects(t *testing.T) {
	x := treeOf(t, "a/root", "b/a", "c/b", "d/c", "e/a")
	f, _ := counted(t, x, []string{"all"}, pod("root", "x", "", "cpu=1"), pod("d", "x", "", "cpu=10"))
	tells(t, f, "root", 0, "cpu=1,objects=1", "cpu=11,objects=2", false)
	for _, node := range []string{"a", "b", "c"} {
		tells(t, f, node, 0, "", "cpu=10,objects=1", false)
	}
	tells(t, f, "e", 0, "", "", false)
}

// P14.1: whichever names nodes have, the deepest come first: below may be ahead of above, or behind, in the order of texts.
func TestWhateverNames(t *testing.T) {
	names := []string{"a", "z", "m", "b", "root1", "0", "zz"}
	for round := range len(names) {
		slices.Reverse(names[:round+1])
		x, parent := tree.New(), api.Root
		var objects []api.Object
		for i, name := range names {
			if e := x.Create(name, parent); e != api.OK {
				t.Fatal(e)
			}
			objects = append(objects, pod(name, "x", "", "cpu="+strconv.Itoa(1<<i)))
			parent = name
		}
		f, _ := counted(t, x, []string{"all"}, objects...)
		for i, name := range names {
			tells(t, f, name, 0, "cpu="+strconv.Itoa(1<<i)+",objects=1", "cpu="+strconv.Itoa(1<<len(names)-1<<i)+",objects="+strconv.Itoa(len(names)-i), false)
		}
	}
}

// P14.1: an object counts with the number of each scope that matches it, and with no other one.
func TestOfEachScope(t *testing.T) {
	texts := []string{"all", "in:high,low", "notin:high", "class", "noclass", "terminating", "running", "best"}
	x := treeOf(t, "a/root", "b/a")
	var objects []api.Object
	for i, class := range []string{"", "high", "low", "mid", "!", "*", "!*", "high!", "low*", "mid!*"} {
		objects = append(objects, pod([]string{"a", "b", "root", "c"}[i%4], strconv.Itoa(i), class, "cpu="+strconv.Itoa(1<<i)))
	}
	f, _ := counted(t, x, texts, objects...)
	tells(t, f, "b", 0, "cpu=546,objects=3", "cpu=546,objects=3", false)
	tells(t, f, "b", 1, "cpu=2,objects=1", "cpu=2,objects=1", false)
	tells(t, f, "a", 1, "cpu=256,objects=1", "cpu=258,objects=2", false)
	tells(t, f, "root", 7, "cpu=64,objects=1", "cpu=864,objects=4", false)
	for i := range objects {
		counted(t, x, texts[:i%8+1], objects[i])
		counted(t, x, texts[:8-i%8], objects[:i]...)
	}
	counted(t, x, []string{"terminating;running", "best;class;running", "in:low;notin:low"}, objects...)
	f, _ = counted(t, x, []string{"best", "all", "best"}, objects...)
	tells(t, f, "root", 2, told(f.Own("root", 0)), told(f.All("root", 0)), false)
}

// P14.1: objects that no scope matches are in no sum.
func TestWhatNoScopeMatches(t *testing.T) {
	x := treeOf(t, "a/root")
	f, _ := counted(t, x, []string{"best", "in:high", "terminating;running"}, pod("a", "x", "", most), pod("root", "y", "low", most), pod("z", "y", "low!", most))
	for _, space := range []string{"a", "root", "z"} {
		for i := range 3 {
			tells(t, f, space, i, "", "", false)
		}
	}
}

// P14.1: no scopes have no sums, but what may not be is refused all the same; 8 have each one.
func TestNoScopesAndEight(t *testing.T) {
	x := treeOf(t, "a/root")
	o := pod("a", "x", "high!*", most+",mem=1")
	for _, none := range [][]api.Scope{nil, {}, scopesOf(t, "all")[:0]} {
		f, e := audit.Full(none, []api.Object{o, o}, x)
		if f == nil || e != api.OK {
			t.Fatal(e)
		}
		for _, space := range []string{"a", "root", "z", ""} {
			for i := -1; i < 9; i++ {
				tells(t, f, space, i, "", "", false)
			}
		}
		for _, wrong := range wrongObjects() {
			refuses(t, api.ErrArg, none, []api.Object{o, wrong}, x)
		}
	}
	texts := []string{"all", "noclass", "in:high", "running", "best", "all", "notbest", "class;terminating"}
	f, _ := counted(t, x, texts, o)
	for i, has := range []bool{true, false, true, false, true, true, false, true} {
		sum := ""
		if has {
			sum = most + ",mem=1,objects=1"
		}
		tells(t, f, "a", i, sum, sum, false)
		tells(t, f, "root", i, "", sum, false)
	}
}

// P14.1: of no objects all is empty, of whatever tree.
func TestNoObjects(t *testing.T) {
	for _, x := range []*tree.Tree{tree.New(), {}, treeOf(t, "a/root", "b/a")} {
		for _, none := range [][]api.Object{nil, {}, make([]api.Object, 3)[:0]} {
			f, _ := counted(t, x, []string{"all", "best"}, none...)
			for _, space := range []string{"root", "a", "b", "c"} {
				tells(t, f, space, 0, "", "", false)
				tells(t, f, space, 1, "", "", false)
			}
		}
	}
}

// P14.1, P14.2: of the root alone, all is its own; a zero tree is one.
func TestRootAlone(t *testing.T) {
	for _, x := range []*tree.Tree{tree.New(), {}} {
		f, _ := counted(t, x, []string{"all", "best"}, pod("root", "x", "*", "cpu=2"), pod("a", "x", "", "cpu=5"), pod("root", "y", "", "cpu=1"))
		tells(t, f, "root", 0, "cpu=3,objects=2", "cpu=3,objects=2", false)
		tells(t, f, "root", 1, "cpu=2,objects=1", "cpu=2,objects=1", false)
		tells(t, f, "a", 0, "cpu=5,objects=1", "", false)
	}
}

// P14.1: of a space that is no node, own is told; all and over are not, even where its own does not fit; nor is it in all of any node.
func TestSpacesThatAreNoNodes(t *testing.T) {
	x := treeOf(t, "a/root", "b/a")
	f, _ := counted(t, x, []string{"best", "all"}, pod("z", "x", "", most), pod("z", "y", "*", "cpu=1"), pod("a", "x", "", "cpu=3"), pod(long24, "x", "*", "objects=9223372036854775807"))
	tells(t, f, "z", 1, "cpu=9223372036854775808,objects=2", "", false)
	tells(t, f, "z", 0, "cpu=1,objects=1", "", false)
	tells(t, f, long24, 0, "objects=9223372036854775808", "", false)
	tells(t, f, "a", 1, "cpu=3,objects=1", "cpu=3,objects=1", false)
	tells(t, f, "root", 1, "", "cpu=3,objects=1", false)
	tells(t, f, "root", 0, "", "", false)
}

// P14.1: a chain as deep as a tree may be, whoever on it has what does not fit.
func TestChain(t *testing.T) {
	var nodes []string
	path := []string{api.Root}
	for i := 1; i < api.MaxDepth; i++ {
		path = append(path, "n"+strconv.Itoa(i))
		nodes = append(nodes, path[i]+"/"+path[i-1])
	}
	x := treeOf(t, nodes...)
	if len(x.Path(path[7])) != api.MaxDepth {
		t.Fatal("not as deep")
	}
	for at, great := range path {
		var objects []api.Object
		for i, node := range path {
			objects = append(objects, pod(node, strconv.Itoa(i), "", "cpu=1"))
		}
		objects = append(objects, pod(great, "great", "", "cpu=9223372036854775799"))
		f, _ := counted(t, x, []string{"all"}, objects...)
		for i, node := range path {
			if f.Over(node, 0) {
				t.Errorf("%s is over, with much of %s", node, great)
			}
			tells(t, f, node, 1, "", "", false)
			objects[i].Charge[0].N = 2
		}
		f, _ = counted(t, x, []string{"all"}, objects...)
		for i, node := range path {
			// Each node from this one down has 2, and the greatest number is only 8 above what is great.
			if want := i <= at && 2*(8-i) > 8; f.Over(node, 0) != want {
				t.Errorf("%s is over %v, with much of %s", node, !want, great)
			}
		}
	}
}

// P14.1: a tree as wide as it may be, of the root's children alone, and of 8 of depth.
func TestWide(t *testing.T) {
	flat, steep := tree.New(), tree.New()
	var objects []api.Object
	for i := 1; i < api.MaxNodes; i++ {
		name, parent := "n"+strconv.Itoa(i), "n"+strconv.Itoa(i-1)
		if i%7 == 1 {
			parent = api.Root
		}
		if flat.Create(name, api.Root) != api.OK || steep.Create(name, parent) != api.OK {
			t.Fatal(name)
		}
		objects = append(objects, pod(name, "x", []string{"", "*"}[i%2], "cpu="+strconv.Itoa(i)))
	}
	for _, x := range []*tree.Tree{flat, steep} {
		if len(x.All()) != api.MaxNodes {
			t.Fatal("not as wide")
		}
		f, _ := counted(t, x, []string{"all", "best"}, objects...)
		tells(t, f, "root", 0, "", "cpu=19900,objects=199", false)
		tells(t, f, "root", 1, "", "cpu=10000,objects=100", false)
	}
	f, _ := counted(t, steep, []string{"all"}, objects...)
	tells(t, f, "n8", 0, "cpu=8,objects=1", "cpu=77,objects=7", false)
	tells(t, f, "n14", 0, "cpu=14,objects=1", "cpu=14,objects=1", false)
}

// P14.1, T5: sums that fit, and such that just don't: the node is over, and those above it are; those below, and beside it, are not.
func TestOver(t *testing.T) {
	x := treeOf(t, "a/root", "b/a", "c/b", "d/a", "e/root")
	one := func(space, charge string) api.Object { return pod(space, "x", "", charge) }
	for _, y := range []struct {
		over    string
		objects []api.Object
	}{
		{"", []api.Object{one("c", most)}},
		{"", []api.Object{one("c", most), one("b", "mem=9223372036854775807"), one("a", "cpu=0,disk=9223372036854775807")}},
		{"", []api.Object{one("c", most), one("z", most), one("z", "cpu=1")}},
		{"root a b c", []api.Object{one("c", most), one("c", "cpu=1")}},
		{"root a b", []api.Object{one("c", most), one("b", "cpu=1")}},
		{"root a", []api.Object{one("c", most), one("d", "cpu=1")}},
		{"root", []api.Object{one("c", most), one("e", "cpu=1")}},
		{"root", []api.Object{one("e", "cpu=1"), one("root", most)}},
		{"root a", []api.Object{one("a", "mem=4,z=9223372036854775807"), one("c", "z=1")}},
		{"root e", []api.Object{one("e", "objects=9223372036854775807")}},
		{"", []api.Object{one("e", "objects=9223372036854775806")}},
		{"root a", []api.Object{one("b", "objects=9223372036854775806"), one("d", "")}},
		{"root a b d", []api.Object{one("d", most), one("d", most), one("b", "cpu=9223372036854775806"), one("b", "cpu=2")}},
	} {
		for i := range y.objects {
			y.objects[i].Key.Name = strconv.Itoa(i)
		}
		f, _ := counted(t, x, []string{"all"}, y.objects...)
		for _, node := range x.All() {
			if want := slices.Contains(strings.Fields(y.over), node); f.Over(node, 0) != want {
				t.Errorf("%+v: %s over %v", y.objects, node, !want)
			}
		}
	}
}

// P14.1: a node is over with one number, and not with another one.
func TestOverWithANumber(t *testing.T) {
	x := treeOf(t, "a/root", "b/a")
	f, _ := counted(t, x, []string{"best", "all", "class", "in:high"}, pod("b", "x", "high*", most), pod("b", "y", "low", "cpu=1"), pod("a", "x", "*", "cpu=1"))
	for _, y := range []struct {
		space string
		over  []bool
	}{{"b", []bool{false, true, true, false}}, {"a", []bool{true, true, true, false}}, {"root", []bool{true, true, true, false}}} {
		for i, want := range y.over {
			if f.Over(y.space, i) != want {
				t.Errorf("%s, %d: over %v", y.space, i, !want)
			}
		}
	}
	tells(t, f, "a", 0, "cpu=1,objects=1", "cpu=9223372036854775808,objects=2", true)
	tells(t, f, "root", 2, "", "cpu=9223372036854775808,objects=2", true)
	tells(t, f, "root", 3, "", most+",objects=1", false)
}

// T5: what fits into 64 bits no more does not wrap round: all is exact.
func TestSumsOfMoreThan64Bits(t *testing.T) {
	x := treeOf(t, "a/root", "b/a", "c/a")
	var objects []api.Object
	for i := range 6 {
		objects = append(objects, pod([]string{"a", "b", "c"}[i%3], strconv.Itoa(i), "", most+",mem=9223372036854775806,objects=9223372036854775807"))
	}
	f, _ := counted(t, x, []string{"all"}, objects...)
	const two = "cpu=18446744073709551614,mem=18446744073709551612,objects=18446744073709551616"
	const six = "cpu=55340232221128654842,mem=55340232221128654836,objects=55340232221128654848"
	tells(t, f, "b", 0, two, two, true)
	tells(t, f, "c", 0, two, two, true)
	tells(t, f, "a", 0, two, six, true)
	tells(t, f, "root", 0, "", six, true)
}

// P14.1: an object may have 16 resources, beside `objects`; all of a node has as many names as there are below it.
func TestManyNames(t *testing.T) {
	x := treeOf(t, "a/root", "b/a", "c/root")
	all := charged(100)
	var objects []api.Object
	for i := range 100 - 15 {
		o := pod([]string{"a", "b", "c", "root"}[i%4], strconv.Itoa(i), []string{"", "high"}[i%2], "")
		o.Charge = all[i : i+16]
		objects = append(objects, o)
	}
	f, _ := counted(t, x, []string{"all", "class"}, objects...)
	if n := len(f.All("root", 0)); n != 101 {
		t.Errorf("%d names", n)
	}
}

// P14.1: what just may be, of each part of an object, and of a scope, counts as any other.
func TestWhatJustMayBe(t *testing.T) {
	o := pod(long24, long24, "!*", "")
	o.Key.Kind, o.Class, o.Version, o.Charge = long24, long24, math.MaxInt64, charged(16)
	o.Charge[0].N, o.Charge[15].N = math.MaxInt64, 0
	other := with(o, func(o *api.Object) { o.Key = api.Key{Space: "0", Kind: "0", Name: "a-0"} })
	counted(t, treeOf(t, long24+"/root", "0/"+long24), []string{"in:" + long24 + ",b,c,d,e,f,g,h", strings.Repeat("best;", 7) + "best", "all"}, o, other)
}

// charged are so many resources, of names that rise, each of another number.
func charged(count int) []api.Resource {
	var l []api.Resource
	for i := range count {
		l = append(l, api.Resource{Name: "r" + strconv.Itoa(1000+i), N: int64(i + 1)})
	}
	return l
}

// P14.1: nothing, and false, of a number below 0, or too great, of each space; and of a space that may not be, or that there is not.
func TestOfNone(t *testing.T) {
	x := treeOf(t, "a/root")
	f, _ := counted(t, x, []string{"all", "best"}, pod("a", "x", "*", most), pod("a", "y", "*", most), pod("root", "x", "", ""), pod("z", "x", "*", most))
	if !f.Over("a", 0) || !f.Over("a", 1) || !f.Over("root", 1) {
		t.Error("not over")
	}
	for _, space := range []string{"a", "root", "z", "b", ""} {
		for _, i := range []int{-1, -2, 2, 3, 7, 8, 1 << 32, 1<<32 + 1, -1 << 32, math.MinInt, math.MaxInt, math.MinInt + 1} {
			tells(t, f, space, i, "", "", false)
		}
	}
	for _, space := range []string{"", "b", "A", "a ", " a", "a/pod/x", "a\x00", "-", "objects", "cpu", "\xff", "Root", strings.Repeat("a", 1<<16)} {
		for i := -1; i < 4; i++ {
			tells(t, f, space, i, "", "", false)
		}
	}
}

// P14.1: no tree is ErrArg, whatever else there is.
func TestNoTree(t *testing.T) {
	o := pod("a", "x", "", "cpu=2")
	for _, scopes := range append([][]api.Scope{nil, {}, {nil}, make([]api.Scope, 8), make([]api.Scope, 9)}, wrongScopes()...) {
		for _, objects := range [][]api.Object{nil, {}, {o}, {{}}, {o, o, {}}} {
			refuses(t, api.ErrArg, scopes, objects, nil)
		}
	}
}

// wrongScopes are each a list of one scope that may not be.
func wrongScopes() [][]api.Scope {
	nine := []string{"a", "b", "c", "d", "e", "f", "g", "h", "i"}
	var l [][]api.Scope
	for _, s := range []api.Scope{
		{{Op: -1}}, {{Op: 8}}, {{Op: math.MaxInt}},
		{{Op: api.ClassIn}}, {{Op: api.ClassNotIn, Values: []string{}}}, {{Op: api.ClassIs, Values: []string{"a"}}},
		{{Op: api.ClassIn, Values: []string{"b", "a"}}}, {{Op: api.ClassIn, Values: []string{"a", "a"}}},
		{{Op: api.ClassIn, Values: []string{"A"}}}, {{Op: api.ClassNotIn, Values: []string{""}}}, {{Op: api.ClassIn, Values: nine}},
		{{Op: api.Running}, {Op: 8}}, slices.Repeat(api.Scope{{Op: api.Running}}, 9),
	} {
		l = append(l, []api.Scope{s})
	}
	return l
}

// P14.1: 9 scopes are ErrArg, and one that may not be, wherever it stands, be there objects or not.
func TestWrongScopes(t *testing.T) {
	x := treeOf(t, "a/root")
	o := pod("a", "x", "", "cpu=2")
	for _, objects := range [][]api.Object{nil, {o}, {o, {}}} {
		for _, n := range []int{9, 10, 200} {
			refuses(t, api.ErrArg, make([]api.Scope, n), objects, x)
		}
		for _, wrong := range wrongScopes() {
			for at := range api.MaxBuckets {
				scopes := make([]api.Scope, api.MaxBuckets)
				scopes[at] = wrong[0]
				refuses(t, api.ErrArg, scopes, objects, x)
				refuses(t, api.ErrArg, scopes[:at+1], objects, x)
				refuses(t, api.ErrArg, append(scopes, nil), objects, x)
			}
		}
	}
}

// wrongObjects may not be, each for one cause.
func wrongObjects() []api.Object {
	x := pod("a", "x", "", "cpu=2,mem=1")
	return []api.Object{
		{},
		with(x, func(o *api.Object) { o.Key.Space = "" }),
		with(x, func(o *api.Object) { o.Key.Space = "A" }),
		with(x, func(o *api.Object) { o.Key.Space = long24 + "y" }),
		with(x, func(o *api.Object) { o.Key.Kind = "" }),
		with(x, func(o *api.Object) { o.Key.Kind = "a/b" }),
		with(x, func(o *api.Object) { o.Key.Name = "-x" }),
		with(x, func(o *api.Object) { o.Key.Name = "\xff" }),
		with(x, func(o *api.Object) { o.Version = 0 }),
		with(x, func(o *api.Object) { o.Version = math.MinInt64 }),
		with(x, func(o *api.Object) { o.Class = "-" }),
		with(x, func(o *api.Object) { o.Class = "High" }),
		with(x, func(o *api.Object) { o.Charge = charged(17) }),
		with(x, func(o *api.Object) { o.Charge[0].N = -1 }),
		with(x, func(o *api.Object) { o.Charge[1].N = math.MinInt64 }),
		with(x, func(o *api.Object) { o.Charge[0].Name = "" }),
		with(x, func(o *api.Object) { o.Charge[0].Name = "z" }),
		with(x, func(o *api.Object) { o.Charge[1].Name = "cpu" }),
		with(x, func(o *api.Object) { o.Charge[1].Name = "\xff" }),
	}
}

// P14.1: an object that may not be is ErrArg, wherever it stands, in a space that is a node or is none, whatever scopes match it.
func TestWrongObjects(t *testing.T) {
	right := []api.Object{pod("a", "x", "", "cpu=2"), pod("z", "y", "*", most), pod("root", "z", "high", "")}
	for _, texts := range [][]string{nil, {"all"}, {"best", "in:high"}, {"terminating;running"}} {
		for _, x := range []*tree.Tree{tree.New(), treeOf(t, "a/root", "b/a")} {
			for _, wrong := range wrongObjects() {
				refuses(t, api.ErrArg, scopesOf(t, texts...), []api.Object{wrong}, x)
				for at := range len(right) + 1 {
					refuses(t, api.ErrArg, scopesOf(t, texts...), slices.Insert(slices.Clone(right), at, wrong), x)
				}
			}
			counted(t, x, texts, right...)
		}
	}
}

// P14.1: of as many objects as a store has, and of more.
func TestManyObjects(t *testing.T) {
	x := treeOf(t, "a/root", "b/a")
	var objects []api.Object
	for i := range 3000 {
		objects = append(objects, pod([]string{"a", "b", "root"}[i%3], strconv.Itoa(i), []string{"", "*"}[i%2], "cpu="+strconv.Itoa(i)))
	}
	f, _ := counted(t, x, []string{"all", "best"}, objects...)
	tells(t, f, "b", 0, "cpu=1499500,objects=1000", "cpu=1499500,objects=1000", false)
	tells(t, f, "a", 0, "cpu=1498500,objects=1000", "cpu=2998000,objects=2000", false)
	tells(t, f, "root", 1, "cpu=751000,objects=500", "cpu=2250000,objects=1500", false)
	counted(t, x, []string{"all", "best"}, objects[:api.MaxObjects]...)
}

// P14.1: later acts on the tree make no difference: a table tells of the nodes that there were, and of where they stood.
func TestLaterActs(t *testing.T) {
	x := treeOf(t, "a/root", "b/a", "c/root", "d/c")
	objects := []api.Object{pod("a", "x", "", "cpu=1"), pod("b", "x", "", most), pod("c", "x", "", "cpu=100"), pod("d", "x", "", "cpu=1000"), pod("z", "x", "", "cpu=7"), pod("y", "x", "", "cpu=8")}
	f, m := counted(t, x, []string{"all"}, objects...)
	for i, act := range []func() api.Errno{
		func() api.Errno { return x.Create("z", "d") },
		func() api.Errno { return x.Move("b", "d") },
		func() api.Errno { return x.Move("c", "a") },
		func() api.Errno { return x.Remove("b") },
		func() api.Errno { return x.Create("y", "root") },
		func() api.Errno { return x.Create("b", "y") },
		func() api.Errno { return x.Remove("z") },
		func() api.Errno { return x.Remove("d") },
		func() api.Errno { return x.Remove("c") },
		func() api.Errno { return x.Remove("a") },
	} {
		if e := act(); e != api.OK {
			t.Fatalf("%d: %d", i, e)
		}
		holds(t, f, m)
		tells(t, f, "a", 0, "cpu=1,objects=1", "cpu=9223372036854775808,objects=2", true)
		tells(t, f, "b", 0, most+",objects=1", most+",objects=1", false)
		tells(t, f, "c", 0, "cpu=100,objects=1", "cpu=1100,objects=2", false)
		tells(t, f, "z", 0, "cpu=7,objects=1", "", false)
		tells(t, f, "y", 0, "cpu=8,objects=1", "", false)
		counted(t, x, []string{"all"}, objects...)
	}
}

// Rule 4: the tree that is handed in stays as it was, with an error, too.
func TestTheTreeStays(t *testing.T) {
	x := treeOf(t, "a/root", "b/a", "c/b")
	was := shape(x)
	counted(t, x, []string{"all", "best"}, pod("c", "x", "", most), pod("z", "x", "", most), pod("a", "x", "", "cpu=1"))
	refuses(t, api.ErrArg, nil, []api.Object{{}}, x)
	refuses(t, api.ErrArg, make([]api.Scope, 9), nil, x)
	if is := shape(x); is != was {
		t.Errorf("%s, was %s", is, was)
	}
}

// P14.1: on a nil table nothing, and false, whatever is asked for.
func TestNil(t *testing.T) {
	var none *audit.Table
	for _, space := range []string{"a", "root", "", "A", "\xff"} {
		for _, i := range []int{-1, 0, 1, 8, math.MaxInt, math.MinInt} {
			if len(none.Own(space, i)) != 0 || len(none.All(space, i)) != 0 || none.Over(space, i) {
				t.Errorf("%q, %d: something", space, i)
			}
		}
	}
}
