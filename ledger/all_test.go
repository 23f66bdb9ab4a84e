package ledger_test

import (
	"math"
	"math/rand"
	"slices"
	"strconv"
	"strings"
	"testing"

	"scutage/api"
	"scutage/audit"
	"scutage/cache"
	"scutage/ledger"
	"scutage/store"
	"scutage/vector"
)

// smallActs are those of a small world: two nodes beside the root, two objects, which together don't fit, in each space.
func smallActs() []act {
	var l []act
	for _, space := range []string{"root", "a", "b"} {
		x, y := pod(space, "x", "*", most), pod(space, "y", "", "cpu=1")
		l = append(l, applies(come(x)), applies(goes(x)), applies(come(y)), applies(turns(x, y), come(y)), removes(space))
		for _, parent := range []string{"root", "a", "b"} {
			l = append(l, creates(space, parent), moves(space, parent))
		}
	}
	x, y := pod("a", "x", "", most), pod("b", "y", "*", "cpu=1")
	wrong := api.Delta{Has: true}
	return append(l, steps(0), steps(1), steps(2), steps(3), recounts(), recounts(x, y), recounts(x, api.Object{}), applies(come(x), come(y)), applies(come(x), wrong))
}

// P15.1 to P15.5: all lists of up to two acts of a small world, behind some that lead to where they matter; and those of three, of the root, and its first child, alone.
func TestAllShortLists(t *testing.T) {
	acts := smallActs()
	x, y := pod("b", "x", "*", most), pod("b", "y", "", "cpu=1")
	for _, start := range [][]act{
		nil,
		{creates("a", "root"), creates("b", "a")},
		{creates("a", "root"), creates("b", "a"), steps(9), applies(come(x))},
		{creates("a", "root"), creates("b", "root"), applies(come(x)), steps(3), applies(come(y))},
		{creates("a", "root"), creates("b", "a"), applies(come(x), come(y)), steps(3), applies(goes(y)), steps(2)},
		{applies(come(x), come(y)), creates("b", "root"), creates("a", "b"), steps(1)},
		{creates("b", "root"), creates("a", "b"), applies(come(y), come(pod("a", "x", "*", most))), steps(1)},
	} {
		for _, first := range acts {
			for _, second := range acts {
				b := fresh(t, "all", "best")
				do(t, b.l, b.m, start...)
				do(t, b.l, b.m, first)
				holds(t, b.l, b.m)
				do(t, b.l, b.m, second)
				holds(t, b.l, b.m)
			}
		}
	}
	few := slices.DeleteFunc(acts, func(a act) bool { return strings.Contains(a.name, "b") })
	for _, first := range few {
		for _, second := range few {
			for _, third := range few {
				b := fresh(t, "all")
				do(t, b.l, b.m, creates("a", "root"), first, second, third)
				holds(t, b.l, b.m)
			}
		}
	}
}

// someScopes are up to 8 texts of scopes that are drawn.
func someScopes(r *rand.Rand) []string {
	texts := []string{"all", "class", "noclass", "terminating", "running", "best", "notbest", "in:high", "in:high,low;running", "notin:low", "best;class;running", "in:low;notin:low"}
	r.Shuffle(len(texts), func(i, j int) { texts[i], texts[j] = texts[j], texts[i] })
	return texts[:r.Intn(api.MaxBuckets+1)]
}

// drawnOf is an object of a space.
func drawnOf(r *rand.Rand, space, name string) api.Object {
	o := api.Object{Key: api.Key{Space: space, Kind: "pod", Name: name}, Version: 1 + r.Int63n(9), Terminating: r.Intn(3) == 0, Best: r.Intn(2) == 0, Class: []string{"", "high", "low"}[r.Intn(3)]}
	for i := range r.Intn(4) {
		n := []int64{0, 1, r.Int63n(100), math.MaxInt64, math.MaxInt64 - r.Int63n(3)}[r.Intn(5)]
		o.Charge = append(o.Charge, api.Resource{Name: "r" + strconv.Itoa(2*i+r.Intn(2)), N: n})
	}
	return o
}

// places are the root, and so many spaces that may be nodes, or not.
func places(count int) []string {
	l := []string{"root"}
	for i := range count {
		l = append(l, "n"+strconv.Itoa(i))
	}
	return l
}

// grow lets most of these spaces be nodes.
func (b both) grow(r *rand.Rand, spaces []string) both {
	b.Helper()
	for _, i := range r.Perm(len(spaces))[:len(spaces)*3/4] {
		nodes := b.m.t.All()
		do(b.T, b.l, b.m, creates(spaces[i], nodes[r.Intn(len(nodes))]))
	}
	return b
}

// drawn is an act, of some spaces; now and then it may not be.
func drawn(r *rand.Rand, spaces []string) act {
	some := func() string { return spaces[r.Intn(len(spaces))] }
	switch r.Intn(12) {
	case 0, 1:
		return creates(some(), some())
	case 2:
		return removes(some())
	case 3, 4:
		return moves(some(), some())
	case 5:
		return steps(r.Intn(4))
	case 6:
		return steps(1 + r.Intn(16))
	case 7:
		if r.Intn(3) > 0 {
			return applies(come(drawnOf(r, some(), "y")), come(drawnOf(r, some(), "y")))
		}
		var l []api.Object
		for range r.Intn(6) {
			l = append(l, drawnOf(r, some(), "x"))
		}
		if r.Intn(5) == 0 {
			l = append(l, api.Object{})
		}
		return recounts(l...)
	}
	var l []api.Delta
	for range r.Intn(4) {
		was := drawnOf(r, some(), "x")
		is := drawnOf(r, was.Key.Space, "x")
		l = append(l, api.Delta{Key: is.Key, Had: r.Intn(2) == 0, Has: r.Intn(2) == 0, Old: was, New: is})
		if r.Intn(30) == 0 {
			l[0].Has, l[0].New.Version = true, 0
		}
	}
	return applies(l...)
}

// P15.1 to P15.5, of long lists of acts, on trees that are deep or not, with many that are refused.
func TestLongLists(t *testing.T) {
	r := rand.New(rand.NewSource(15))
	over, dirty, clean := 0, 0, 0
	for round := range 80 {
		spaces := places(2 + round%14)
		b := fresh(t, someScopes(r)...).grow(r, spaces)
		for range 80 {
			do(t, b.l, b.m, drawn(r, spaces))
			holds(t, b.l, b.m)
			if len(b.l.Dirty()) > 0 {
				dirty++
			} else {
				clean++
			}
			for _, node := range b.l.Tree().All() {
				if b.l.Over(node, 0) {
					over++
				}
			}
		}
	}
	if over < 2000 || dirty < 1000 || clean < 500 {
		t.Errorf("%d over, %d dirty, %d clean", over, dirty, clean)
	}
}

// P15.5: what is over stays so, whatever is done but a Recount, as long as the node is there.
func TestOverWhateverIsDone(t *testing.T) {
	r := rand.New(rand.NewSource(155))
	stays := 0
	for round := range 80 {
		spaces := places(3 + round%9)
		b := fresh(t, "all", "best", "class").grow(r, spaces)
		was := map[api.Bucket]bool{}
		for range 80 {
			a := drawn(r, spaces)
			do(t, b.l, b.m, a)
			name, gone := strings.CutPrefix(a.name, "remove ")
			for i := range 3 {
				for _, node := range b.l.Tree().All() {
					at := api.Bucket{Space: node, Scope: i}
					is := b.l.Over(node, i)
					if was[at] && !is && !strings.HasPrefix(a.name, "recount") {
						t.Fatalf("%v is over no more, behind %s", at, a.name)
					}
					if was[at] && is {
						stays++
					}
					was[at] = is
				}
				if gone && !b.l.Tree().Has(name) {
					delete(was, api.Bucket{Space: name, Scope: i})
				}
			}
		}
	}
	if stays < 5000 {
		t.Errorf("%d", stays)
	}
}

// tell tells a cache an event, and the ledger its deltas.
func tell(t *testing.T, b both, c *cache.Cache, e api.Event) {
	t.Helper()
	d, _ := c.Apply(e)
	do(t, b.l, b.m, applies(d...))
}

// isTable tells whether all of a ledger is as a table tells (P15.4), but who is over: that are at least those of the table.
func isTable(t *testing.T, l *ledger.Ledger, objects []api.Object, spaces []string, just bool) {
	t.Helper()
	f, e := audit.Full(l.Scopes(), objects, l.Tree())
	if e != api.OK {
		t.Fatal(e)
	}
	for _, space := range spaces {
		for i := range l.Scopes() {
			if !vector.Same(l.Own(space, i), f.Own(space, i)) || !vector.Same(l.Kept(space, i), f.All(space, i)) || !vector.Same(l.True(space, i), f.All(space, i)) {
				t.Fatalf("%s, %d: %s, where the table has own %s, all %s", space, i, tells(l, space, i), told(f.Own(space, i)), told(f.All(space, i)))
			}
			if f.Over(space, i) && !l.Over(space, i) || just && l.Over(space, i) != f.Over(space, i) {
				t.Fatalf("%s, %d: over %v, where the table has %v", space, i, l.Over(space, i), f.Over(space, i))
			}
		}
	}
}

// P15.2 to P15.4, T3: told all deltas of a cache, whose events come late, twice, or not at all, while nodes come, go, and move: once nothing is dirty, all is as it is counted anew, and a Recount tells 0.
func TestOfACache(t *testing.T) {
	r := rand.New(rand.NewSource(153))
	counted, drifted := 0, 0
	for round := range 60 {
		spaces := places(1 + round%12)
		b := fresh(t, someScopes(r)...).grow(r, spaces)
		s, c := store.New(), cache.New()
		some := func() string { return spaces[r.Intn(len(spaces))] }
		for range 60 {
			switch r.Intn(6) {
			case 0, 1, 2:
				s.Put(drawnOf(r, some(), strconv.Itoa(r.Intn(3))))
			case 3:
				s.Delete(api.Key{Space: some(), Kind: "pod", Name: strconv.Itoa(r.Intn(3))})
			case 4:
				do(t, b.l, b.m, creates(some(), some()), moves(some(), some()))
			case 5:
				do(t, b.l, b.m, removes(some()), creates(some(), "root"))
			}
			for range r.Intn(3) {
				if log := s.Log(); len(log) > 0 {
					tell(t, b, c, log[max(0, len(log)-1-r.Intn(4))])
				}
			}
			if r.Intn(9) == 0 {
				tell(t, b, c, s.Snapshot())
			}
			if r.Intn(4) > 0 {
				do(t, b.l, b.m, steps(1+r.Intn(3)))
				continue
			}
			do(t, b.l, b.m, steps(max(1, len(b.l.Dirty()))))
			b.dirty("")
			isTable(t, b.l, c.Objects(), spaces, false)
			counted++
			if r.Intn(2) == 0 {
				b.recounted(0, c.Objects()...)
				isTable(t, b.l, c.Objects(), spaces, true)
				continue
			}
			if drift, e := b.l.Recount(s.Snapshot().Objects); e != api.OK || drift < 0 {
				t.Fatalf("%d %d", drift, e)
			} else if drift > 0 {
				drifted++
			}
			isTable(t, b.l, s.Snapshot().Objects, spaces, true)
			b.m.recount(s.Snapshot().Objects)
			do(t, b.l, b.m, recounts(c.Objects()...))
			isTable(t, b.l, c.Objects(), spaces, true)
		}
		holds(t, b.l, b.m)
	}
	if counted < 500 || drifted < 100 {
		t.Errorf("%d counted, %d drifted", counted, drifted)
	}
}

// P15.3, T3: it makes no difference by how many steps, and between which acts, all comes to be clean; but for what is over.
func TestWheneverStepped(t *testing.T) {
	r := rand.New(rand.NewSource(33))
	for round := range 60 {
		texts := someScopes(r)
		often, late := fresh(t, texts...), fresh(t, texts...)
		spaces := places(2 + round%12)
		for range 60 {
			a := drawn(r, spaces)
			if strings.HasPrefix(a.name, "recount") {
				continue
			}
			do(t, often.l, often.m, a, steps(1+r.Intn(9)))
			if !strings.HasPrefix(a.name, "step") {
				do(t, late.l, late.m, a)
			}
		}
		do(t, often.l, often.m, steps(api.MaxNodes))
		do(t, late.l, late.m, steps(max(1, len(late.l.Dirty()))))
		late.dirty("")
		plain := func(l *ledger.Ledger) string {
			return strings.ReplaceAll(look(l, spaces...), "over true", "over false")
		}
		if plain(often.l) != plain(late.l) {
			t.Fatalf("%s, and\n%s", plain(often.l), plain(late.l))
		}
	}
}

// P2: what two ledgers of one life tell is the same, and none hangs on what is asked between, or on the other one.
func TestTheSameOfTheSame(t *testing.T) {
	r := rand.New(rand.NewSource(2))
	for round := range 40 {
		texts := someScopes(r)
		one, other := fresh(t, texts...), fresh(t, texts...)
		spaces := places(2 + round%14)
		for range 60 {
			a := drawn(r, spaces)
			if x, y := a.to(one.l), a.to(other.l); x != y {
				t.Fatalf("%s: %s, and %s", a.name, x, y)
			}
			if r.Intn(3) == 0 {
				look(one.l, spaces...)
			}
		}
		if x, y := look(one.l, spaces...), look(other.l, spaces...); x != y || look(one.l, spaces...) != x {
			t.Fatalf("%s, and\n%s", x, y)
		}
	}
}

// scribble writes into all that a list has, and behind it.
func scribble[T any](l []T, with T) {
	for i := range l {
		l[i] = with
	}
	_ = append(l, with)
}

func scribbleObjects(l []api.Object) {
	for _, o := range l {
		scribble(o.Charge, api.Resource{Name: "changed", N: -7})
	}
	scribble(l, api.Object{Version: -1})
}

func scribbleDeltas(l []api.Delta) {
	for _, d := range l {
		scribbleObjects([]api.Object{d.Old, d.New})
	}
	scribble(l, api.Delta{Has: true})
}

func scribbleScopes(l []api.Scope) {
	for _, s := range l {
		for _, term := range s {
			scribble(term.Values, "changed")
		}
		scribble(s, api.Term{Op: -1})
	}
	scribble(l, api.Scope{{Op: -1}})
}

// scribbleAll writes into all that a ledger hands out, but the tree, which is to be read.
func scribbleAll(l *ledger.Ledger, spaces []string) {
	scribble(l.Dirty(), "changed")
	scribbleScopes(l.Scopes())
	for _, space := range append(beside(), spaces...) {
		for i := range api.MaxBuckets {
			for _, v := range []api.Vector{l.Own(space, i), l.Kept(space, i), l.True(space, i)} {
				scribble(v, api.Entry{Name: "changed", N: api.Wide{Hi: 7}})
			}
		}
	}
}

// Rule 4: what was handed in, and what was handed back, is the caller's, who may change it.
func TestWhatTheCallerChanges(t *testing.T) {
	r := rand.New(rand.NewSource(7))
	for round := range 40 {
		texts := someScopes(r)
		scopes := scopesOf(t, texts...)
		l, e := ledger.New(scopes)
		if e != api.OK {
			t.Fatal(e)
		}
		scribbleScopes(scopes)
		b := both{t, l, modelOf(scopesOf(t, texts...))}
		spaces := places(2 + round%9)
		for range 40 {
			do(t, b.l, b.m, drawn(r, spaces))
			was := drawnOf(r, spaces[r.Intn(len(spaces))], "y")
			d := []api.Delta{come(was), turns(was, drawnOf(r, was.Key.Space, "y"))}
			b.m.apply(d)
			if b.l.Apply(d) != api.OK {
				t.Fatal("Apply")
			}
			scribbleDeltas(d)
			if r.Intn(5) == 0 {
				objects := []api.Object{drawnOf(r, spaces[0], "x"), drawnOf(r, spaces[1], "x")}
				b.m.recount(objects)
				if _, e := b.l.Recount(objects); e != api.OK {
					t.Fatal("Recount")
				}
				scribbleObjects(objects)
			}
			b.m.step(2)
			worked, _ := b.l.Step(2)
			scribble(worked, "changed")
			scribbleAll(b.l, spaces)
			holds(t, b.l, b.m)
		}
	}
}

// Rule 4: what is handed in is not written into, and what lies behind its lists is neither read nor written.
func TestWhatLiesBehind(t *testing.T) {
	values := []string{"high", "low", "-", ""}
	terms := api.Scope{{Op: api.ClassIn, Values: values[:2]}, {Op: 8}, {Op: -1}}
	scopes := append(slices.Repeat([]api.Scope{terms[:1]}, 8), terms, nil)
	charge := []api.Resource{{Name: "cpu", N: 2}, {Name: "b", N: -1}, {Name: "", N: 5}}
	o := pod("a", "x", "low", "")
	o.Charge = charge[:1]
	objects := []api.Object{o, {}, o}
	deltas := []api.Delta{come(o), {Has: true}, goes(o)}
	all := func() string {
		return whole(scopes) + whole(values) + whole(charge) + whole(objects) + whole(deltas)
	}
	was := all()
	l, e := ledger.New(scopes[:8])
	if e != api.OK {
		t.Fatal(e)
	}
	if l.Create("a", "root") != api.OK || l.Apply(deltas[:1]) != api.OK {
		t.Error("refused")
	}
	l.Step(9)
	for i := range 8 {
		if got := tells(l, "root", i); got != "own  kept cpu=2,objects=1 true cpu=2,objects=1 over false" {
			t.Errorf("%d: %s", i, got)
		}
	}
	if n, e := l.Recount(objects[:1]); n != 0 || e != api.OK {
		t.Errorf("Recount: %d %d", n, e)
	}
	scribbleAll(l, []string{"a", "root"})
	if _, e := l.Recount(objects); e != api.ErrArg || l.Apply(deltas) != api.ErrArg {
		t.Error("what may not be")
	}
	if is := all(); is != was {
		t.Errorf("written into:\n%s, was\n%s", is, was)
	}
}

// Rule 4: no answer is one with another one, be they of one sum: own, kept and true of a leaf, of a node and of its only child, of two numbers, or of two calls; behind steps, and behind a Recount.
func TestListsOfTheirOwn(t *testing.T) {
	b := planted(t, "all class all", "a/root b/a")
	x, z := pod("b", "x", "high", "cpu=2"), pod("z", "x", "high", "cpu=2")
	b.does(applies(come(x), come(z)), steps(9))
	ask := func() []api.Vector {
		var l []api.Vector
		for range 2 {
			for i := range 3 {
				l = append(l, b.l.Own("b", i), b.l.Own("z", i))
				for _, node := range []string{"b", "a", "root"} {
					l = append(l, b.l.Kept(node, i), b.l.True(node, i))
				}
			}
		}
		return l
	}
	for range 2 {
		for at := range ask() {
			l := ask()
			scribble(l[at], api.Entry{Name: "changed"})
			for i, v := range append(l, ask()...) {
				if i != at && told(v) != "cpu=2,objects=1" {
					t.Fatalf("%d and %d share: %s", at, i, told(v))
				}
			}
		}
		b.does(applies(come(pod("b", "y", "high", "cpu=2"))))
		b.recounted(3, x, z)
	}
}

// P1: every call ends, and none panics, of whatever is handed in, on whatever ledger.
func TestAnyArguments(t *testing.T) {
	long := strings.Repeat("\x00a/", 1<<16)
	names := []string{"", "a", "b", "root", "z", "A", "\xff", long, long24, long24 + "y"}
	x := api.Object{Key: api.Key{Space: long, Kind: long, Name: long}, Version: 1, Class: long}
	for _, scopes := range [][]api.Scope{nil, {nil}, make([]api.Scope, 8), {{{Op: api.BestEffort}}}} {
		l, e := ledger.New(scopes)
		if e != api.OK {
			t.Fatal(e)
		}
		for _, some := range []*ledger.Ledger{nil, l} {
			for _, d := range append([][]api.Delta{nil, {}, {{}}, {come(x), goes(x)}, make([]api.Delta, 1<<12), {come(pod("a", "x", "", most)), goes(pod("b", "x", "*", most))}}, wrongDeltas()) {
				some.Apply(d)
			}
			for _, name := range names {
				for _, parent := range names {
					some.Create(name, parent)
					some.Move(name, parent)
				}
				some.Remove(name)
			}
			for _, o := range append([][]api.Object{nil, {}, {x}, make([]api.Object, 1<<12), {pod("a", "x", "", most), pod("z", "x", "", "")}}, wrongObjects()) {
				some.Recount(o)
			}
			for _, n := range []int{math.MinInt, -1, 0, 1, 8, math.MaxInt} {
				some.Step(n)
				for _, name := range names {
					tells(some, name, n)
				}
			}
			some.Dirty()
			some.Tree()
			some.Scopes()
		}
	}
	for _, scopes := range append(wrongScopes(), make([]api.Scope, 1<<12), []api.Scope{{{Op: api.ClassIn, Values: []string{long}}}}) {
		if l, e := ledger.New(scopes); l != nil || e != api.ErrArg {
			t.Errorf("%d", e)
		}
	}
}
