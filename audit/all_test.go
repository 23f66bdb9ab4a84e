package audit_test

import (
	"math"
	"math/rand"
	"slices"
	"strconv"
	"strings"
	"testing"

	"scutage/api"
	"scutage/audit"
	"scutage/cache"
	"scutage/local"
	"scutage/store"
	"scutage/tree"
)

// smallTrees are all trees of the root, and of some of four other nodes.
func smallTrees() []*tree.Tree {
	names := []string{"b", "a", "z", "c"}
	seen, l := map[string]bool{}, []*tree.Tree{}
	var more func(x *tree.Tree)
	more = func(x *tree.Tree) {
		if seen[shape(x)] {
			return
		}
		seen[shape(x)] = true
		l = append(l, x)
		for _, name := range names {
			for _, parent := range x.All() {
				next := copied(x)
				if next.Create(name, parent) == api.OK {
					more(next)
				}
			}
		}
	}
	more(tree.New())
	return l
}

// copied is a tree of its own.
func copied(x *tree.Tree) *tree.Tree {
	y := tree.New()
	nodes := x.All()
	slices.SortStableFunc(nodes, func(a, b string) int { return len(x.Path(a)) - len(x.Path(b)) })
	for _, node := range nodes {
		y.Create(node, x.Parent(node))
	}
	return y
}

// P14.1, P14.2: of all trees of up to 5 nodes, where each space has nothing, little, or as much as just fits.
func TestAllSmallTrees(t *testing.T) {
	trees := smallTrees()
	spaces := []string{"root", "a", "b", "z", "c"}
	charges := []string{"", "cpu=1", most}
	for _, x := range trees {
		for way := range 243 {
			var objects []api.Object
			for at, rest := 0, way; at < len(spaces); at, rest = at+1, rest/3 {
				if rest%3 > 0 {
					objects = append(objects, pod(spaces[at], "x", []string{"", "*"}[at%2], charges[rest%3]))
				}
			}
			counted(t, x, []string{"all", "best"}[:1+way%2], objects...)
		}
	}
	if len(trees) != 1+4+6*3+4*16+125 {
		t.Errorf("%d trees", len(trees))
	}
}

// someTree is one that is drawn: by nodes that come, some of them to be moved, or to go.
func someTree(r *rand.Rand, count int) *tree.Tree {
	x := tree.New()
	for i := range count {
		all := x.All()
		x.Create("n"+strconv.Itoa(r.Intn(10))+strconv.Itoa(i), all[r.Intn(len(all))])
		if r.Intn(4) == 0 {
			x.Move(all[r.Intn(len(all))], all[r.Intn(len(all))])
		}
		if r.Intn(9) == 0 {
			x.Remove(all[r.Intn(len(all))])
		}
	}
	return x
}

// someScopes are up to 8 texts of scopes that are drawn.
func someScopes(r *rand.Rand) []string {
	texts := []string{"all", "class", "noclass", "terminating", "running", "best", "notbest", "in:high", "in:high,low;running", "notin:low", "best;class;running", "in:low;notin:low"}
	r.Shuffle(len(texts), func(i, j int) { texts[i], texts[j] = texts[j], texts[i] })
	return texts[:r.Intn(api.MaxBuckets+1)]
}

// someObject is one that is drawn, of a space.
func someObject(r *rand.Rand, space, name string) api.Object {
	o := api.Object{Key: api.Key{Space: space, Kind: "pod", Name: name}, Version: 1 + r.Int63n(9), Terminating: r.Intn(3) == 0, Best: r.Intn(2) == 0, Class: []string{"", "high", "low"}[r.Intn(3)]}
	for i := range r.Intn(4) {
		n := []int64{0, 1, r.Int63n(100), math.MaxInt64, math.MaxInt64 - r.Int63n(3)}[r.Intn(5)]
		o.Charge = append(o.Charge, api.Resource{Name: "r" + strconv.Itoa(2*i+r.Intn(2)), N: n})
	}
	return o
}

// someObjects are so many, of a tree's nodes, and of spaces that are none, none of them with another one's key.
func someObjects(r *rand.Rand, x *tree.Tree, count int) []api.Object {
	spaces := append(x.All(), "none", "n")
	var l []api.Object
	for i := range count {
		l = append(l, someObject(r, spaces[r.Intn(len(spaces))], strconv.Itoa(i)))
	}
	return l
}

// P14.1, P14.2: of many trees, scopes, and objects.
func TestManyTables(t *testing.T) {
	r := rand.New(rand.NewSource(14))
	over, not, none := 0, 0, 0
	for round := range 300 {
		x := someTree(r, round%40)
		texts := someScopes(r)
		f, _ := counted(t, x, texts, someObjects(r, x, r.Intn(30))...)
		for _, node := range x.All() {
			for i := range texts {
				switch {
				case f.Over(node, i):
					over++
				case len(f.All(node, i)) > 0:
					not++
				default:
					none++
				}
			}
		}
	}
	if over < 500 || not < 500 || none < 500 {
		t.Errorf("%d over, %d not, %d with nothing", over, not, none)
	}
}

// P14.1, P14.2: of trees that are full.
func TestFullTrees(t *testing.T) {
	r := rand.New(rand.NewSource(200))
	for range 4 {
		x := someTree(r, 200)
		for at := 0; len(x.All()) < api.MaxNodes; at++ {
			all := x.All()
			x.Create("more"+strconv.Itoa(at), all[r.Intn(len(all))])
		}
		counted(t, x, someScopes(r), someObjects(r, x, 40)...)
	}
}

// P14.1: a table hangs not on the order of objects; and scopes in another order are but other numbers.
func TestWhateverOrder(t *testing.T) {
	r := rand.New(rand.NewSource(5))
	for round := range 100 {
		x := someTree(r, round%20)
		texts, objects := someScopes(r), someObjects(r, x, 20)
		f, _ := counted(t, x, texts, objects...)
		was := look(f, x.All())
		r.Shuffle(len(objects), func(i, j int) { objects[i], objects[j] = objects[j], objects[i] })
		again, _ := counted(t, x, texts, objects...)
		if is := look(again, x.All()); is != was {
			t.Fatalf("%s, not\n%s", is, was)
		}
		turned := slices.Clone(texts)
		slices.Reverse(turned)
		other, _ := counted(t, x, turned, objects...)
		for _, space := range append(x.All(), "none", "n") {
			for i := range texts {
				j := len(texts) - 1 - i
				tells(t, other, space, j, told(f.Own(space, i)), told(f.All(space, i)), f.Over(space, i))
			}
		}
	}
}

// P14.1, P2: a table has the own sums that are kept little by little, by the deltas of a cache that is told a store's log; and tells the same, however often it is counted.
func TestOfACache(t *testing.T) {
	r := rand.New(rand.NewSource(132))
	for round := range 30 {
		x, texts := someTree(r, round), someScopes(r)
		spaces := append(x.All(), "none", "n")
		sums, e := local.New(scopesOf(t, texts...))
		if e != api.OK {
			t.Fatal(e)
		}
		s, c := store.New(), cache.New()
		for range 40 {
			o := someObject(r, spaces[r.Intn(len(spaces))], strconv.Itoa(r.Intn(3)))
			if r.Intn(3) > 0 {
				s.Put(o)
			} else {
				s.Delete(o.Key)
			}
		}
		for at, event := range s.Log() {
			d, _ := c.Apply(event)
			if _, e := sums.Apply(d); e != api.OK {
				t.Fatal(e)
			}
			if at%8 > 0 {
				continue
			}
			f, _ := counted(t, x, texts, c.Objects()...)
			again, _ := counted(t, copied(x), texts, c.Objects()...)
			if look(f, spaces) != look(again, spaces) {
				t.Fatalf("%s, and\n%s", look(f, spaces), look(again, spaces))
			}
			for _, space := range spaces {
				for i := range texts {
					if got, want := told(f.Own(space, i)), told(sums.Sum(space, i)); got != want {
						t.Fatalf("%s, %d: %s, not %s", space, i, got, want)
					}
				}
			}
		}
	}
}

// P2: tables are of their own: one that is counted behind another one, of other scopes and objects, or asked between, changes nothing of it.
func TestTablesOfTheirOwn(t *testing.T) {
	r := rand.New(rand.NewSource(77))
	x := someTree(r, 20)
	var tables []*audit.Table
	var models []*model
	for range 20 {
		f, m := counted(t, x, someScopes(r), someObjects(r, x, r.Intn(20))...)
		tables, models = append(tables, f), append(models, m)
	}
	for i := range tables {
		holds(t, tables[i], models[i])
		down(t, tables[i], x, len(models[i].scopes))
	}
}

// scribble writes into all that a list has, and behind it.
func scribble[T any](l []T, with T) {
	for i := range l {
		l[i] = with
	}
	_ = append(l, with)
}

func scribbleObjects(l []api.Object) {
	for _, o := range l {
		scribble(o.Charge, api.Resource{Name: "changed", N: -7})
	}
	scribble(l, api.Object{Version: -1})
}

func scribbleScopes(l []api.Scope) {
	for _, s := range l {
		for _, term := range s {
			scribble(term.Values, "changed")
		}
		scribble(s, api.Term{Op: -1})
	}
	scribble(l, api.Scope{{Op: -1}})
}

// scribbleAll writes into all that a table hands out.
func scribbleAll(f *audit.Table, spaces []string) {
	for _, space := range append(beside(), spaces...) {
		for i := range api.MaxBuckets {
			scribble(f.Own(space, i), api.Entry{Name: "changed", N: api.Wide{Hi: 7}})
			scribble(f.All(space, i), api.Entry{Name: "changed", N: api.Wide{Hi: 7}})
		}
	}
}

// Rule 4: what was handed in, and what was handed back, is the caller's, who may change it.
func TestWhatTheCallerChanges(t *testing.T) {
	r := rand.New(rand.NewSource(7))
	for round := range 60 {
		x, texts := someTree(r, round%20), someScopes(r)
		spaces := append(x.All(), "none", "n")
		scopes, objects := scopesOf(t, texts...), someObjects(r, x, 20)
		m := modelOf(scopesOf(t, texts...), objects, x)
		f, e := audit.Full(scopes, objects, x)
		if e != api.OK {
			t.Fatal(e)
		}
		scribbleScopes(scopes)
		scribbleObjects(objects)
		holds(t, f, m)
		for range 2 {
			scribbleAll(f, spaces)
			holds(t, f, m)
			down(t, f, x, len(texts))
		}
	}
}

// Rule 4: what is handed in is not written into, and what lies behind its lists is neither read nor written.
func TestWhatLiesBehind(t *testing.T) {
	x := treeOf(t, "a/root", "b/a")
	values := []string{"high", "low", "-", ""}
	terms := api.Scope{{Op: api.ClassIn, Values: values[:2]}, {Op: 8}, {Op: -1}}
	scopes := append(slices.Repeat([]api.Scope{terms[:1]}, 8), terms, nil)
	charge := []api.Resource{{Name: "cpu", N: 2}, {Name: "b", N: -1}, {Name: "", N: 5}}
	o := pod("b", "x", "low", "")
	o.Charge = charge[:1]
	objects := []api.Object{o, {}, o}
	was := whole(scopes) + whole(values) + whole(charge) + whole(objects)
	f, e := audit.Full(scopes[:8], objects[:1], x)
	if e != api.OK {
		t.Fatal(e)
	}
	for i := range 8 {
		tells(t, f, "b", i, "cpu=2,objects=1", "cpu=2,objects=1", false)
		tells(t, f, "root", i, "", "cpu=2,objects=1", false)
	}
	scribbleAll(f, x.All())
	refuses(t, api.ErrArg, scopes[:8], objects, x)
	refuses(t, api.ErrArg, scopes[:9], objects[:1], x)
	if is := whole(scopes) + whole(values) + whole(charge) + whole(objects); is != was {
		t.Errorf("written into:\n%s, was\n%s", is, was)
	}
}

// Rule 4: no answer is one with another one, be they of one sum: own and all of a leaf, all of a node and of its only child, of two numbers, or of two calls.
func TestListsOfTheirOwn(t *testing.T) {
	x := treeOf(t, "a/root", "b/a")
	f, _ := counted(t, x, []string{"all", "class", "all"}, pod("b", "x", "high", "cpu=2"), pod("z", "x", "high", "cpu=2"))
	ask := func() []api.Vector {
		var l []api.Vector
		for range 2 {
			for i := range 3 {
				l = append(l, f.Own("b", i), f.All("b", i), f.All("a", i), f.All("root", i), f.Own("z", i))
			}
		}
		return l
	}
	for at := range ask() {
		l := ask()
		scribble(l[at], api.Entry{Name: "changed"})
		for i, v := range append(l, ask()...) {
			if i != at && told(v) != "cpu=2,objects=1" {
				t.Fatalf("%d and %d share: %s", at, i, told(v))
			}
		}
	}
}

// P1: every call ends, and none panics, of whatever is handed in.
func TestAnyArguments(t *testing.T) {
	long := strings.Repeat("\x00a/", 1<<16)
	trees := []*tree.Tree{nil, {}, tree.New(), treeOf(t, "a/root", "b/a")}
	lists := [][]api.Object{nil, {}, make([]api.Object, 1<<12), {{Key: api.Key{Space: long, Kind: long, Name: long}, Version: 1, Class: long}}, {pod("a", "x", "", most), pod("z", "x", "", "")}}
	for _, wrong := range wrongObjects() {
		lists = append(lists, []api.Object{wrong})
	}
	scopes := append(wrongScopes(), nil, []api.Scope{}, []api.Scope{nil}, make([]api.Scope, 8), make([]api.Scope, 1<<12), []api.Scope{{{Op: api.ClassIn, Values: []string{long}}}})
	for _, x := range trees {
		for _, l := range lists {
			for _, some := range scopes {
				f, e := audit.Full(some, l, x)
				if (f == nil) != (e != api.OK) || e != api.OK && e != api.ErrArg {
					t.Fatalf("%v %d", f, e)
				}
				for _, space := range []string{"", "a", "root", "z", long} {
					for _, i := range []int{math.MinInt, -1, 0, 7, 8, math.MaxInt} {
						f.Own(space, i)
						f.All(space, i)
						f.Over(space, i)
					}
				}
			}
		}
	}
}
