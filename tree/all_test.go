package tree_test

import (
	"fmt"
	"math/rand"
	"slices"
	"strings"
	"testing"

	"scutage/api"
	"scutage/tree"
)

// everyCall are all calls with these names, and parents.
func everyCall(names, parents []string) []call {
	var l []call
	for _, name := range names {
		l = append(l, call{'r', name, ""})
		for _, parent := range parents {
			l = append(l, call{'c', name, parent}, call{'m', name, parent})
		}
	}
	return l
}

// states goes to each state that calls lead to behind some first ones, tries each call there, and holds what it answers, and leaves, against the model; it tells how many states there are.
func states(t *testing.T, first, calls []call) int {
	t.Helper()
	type way struct {
		m    *model
		back int
		by   call
	}
	start := &model{}
	for _, c := range first {
		start.try(c)
	}
	ways := []way{{m: start, back: -1}}
	seen := map[string]bool{start.whole(): true}
	lead := func(i int) *tree.Tree {
		var path []call
		for ; ways[i].back >= 0; i = ways[i].back {
			path = append(path, ways[i].by)
		}
		x := tree.New()
		for _, c := range first {
			does(t, x, c)
		}
		for _, c := range slices.Backward(path) {
			does(t, x, c)
		}
		return x
	}
	for i := 0; i < len(ways); i++ {
		x, was := lead(i), ways[i].m.whole()
		holds(t, x, ways[i].m)
		text := look(x)
		for _, c := range calls {
			next := ways[i].m.copied()
			do(t, x, next, c)
			if next.whole() == was {
				if look(x) != text {
					t.Fatalf("behind %s: %c %q %q changes it to %s", was, c.does, c.name, c.parent, look(x))
				}
				continue
			}
			holds(t, x, next)
			x = lead(i)
			if !seen[next.whole()] {
				seen[next.whole()] = true
				ways = append(ways, way{next, i, c})
			}
		}
	}
	return len(ways)
}

// P11.1 to P11.3: each call of a small world, at each state to which its calls lead; a call with an error changes nothing. Of 4 names there are 212 trees.
func TestAllStates(t *testing.T) {
	names := []string{"a", "b", "c", "d", "root", "-", "x-", ""}
	calls := everyCall(names, append(names, "none"))
	if n := states(t, nil, calls); n != 212 {
		t.Errorf("%d states", n)
	}
}

// P11.1 to P11.3: the same of a world of 3 names that hang on a chain of 6, so that many are too deep. There are 649 trees, less the 6 whose depth is 9.
func TestAllStatesThatAreDeep(t *testing.T) {
	var first []call
	parents := []string{"root", "m", "n", "o", "p", "q"}
	for i, name := range parents[1:] {
		first = append(first, call{'c', name, parents[i]})
	}
	names := []string{"a", "b", "c"}
	if n := states(t, first, everyCall(names, append(parents, names...))); n != 649-6 {
		t.Errorf("%d states", n)
	}
}

// someNames are so many names; each is ahead of some that come first.
func someNames(count int) []string {
	var l []string
	for i := range count {
		l = append(l, fmt.Sprintf("%c%d", 'a'+i*7%26, i))
	}
	return l
}

// deepest is a node of the longest path.
func deepest(x *tree.Tree) string {
	name := "root"
	for _, node := range x.All() {
		if len(x.Path(node)) > len(x.Path(name)) {
			name = node
		}
	}
	return name
}

// drawn is a call of a tree with some names: so many of 100 are Creates. Many are of nodes, and below the deepest one; some are wrong.
func drawn(r *rand.Rand, x *tree.Tree, names []string, creates int) call {
	nodes := x.All()
	c := call{'c', names[r.Intn(len(names))], nodes[r.Intn(len(nodes))]}
	if n := r.Intn(100); n >= creates {
		c.does = "mmmr"[n%4]
		if r.Intn(4) > 0 {
			c.name = nodes[r.Intn(len(nodes))]
		}
	}
	switch n := r.Intn(100); {
	case n < 30:
		c.parent = deepest(x)
	case n < 33:
		c.parent = names[r.Intn(len(names))]
	case n == 33:
		c.parent = oddities()[r.Intn(len(oddities()))]
	case n == 34:
		c.name = oddities()[r.Intn(len(oddities()))]
	}
	return c
}

// P11.1 to P11.3, of long lists of calls.
func TestLongLists(t *testing.T) {
	r := rand.New(rand.NewSource(11))
	answers := map[api.Errno]int{}
	for round := range 120 {
		names := someNames(3 + round%22)
		x, m := tree.New(), &model{}
		for range 120 {
			answers[do(t, x, m, drawn(r, x, names, 40))]++
			holds(t, x, m)
		}
	}
	for _, err := range []api.Errno{api.OK, api.ErrArg, api.ErrIs, api.ErrNone, api.ErrLeaf, api.ErrCycle, api.ErrDeep} {
		if answers[err] < 100 {
			t.Errorf("only %d of %d", answers[err], err)
		}
	}
}

// P11.1 to P11.3, of trees that are full, or nearly so.
func TestLongListsOfFullTrees(t *testing.T) {
	r := rand.New(rand.NewSource(12))
	answers := map[api.Errno]int{}
	names := someNames(400)
	for range 4 {
		x, m := tree.New(), &model{}
		for i := range 1500 {
			answers[do(t, x, m, drawn(r, x, names, 65))]++
			if i%250 == 249 {
				holds(t, x, m)
			}
		}
	}
	for _, err := range []api.Errno{api.OK, api.ErrArg, api.ErrIs, api.ErrNone, api.ErrLeaf, api.ErrCycle, api.ErrDeep, api.ErrFull} {
		if answers[err] < 50 {
			t.Errorf("only %d of %d", answers[err], err)
		}
	}
}

// P2: two trees of the same calls tell the same, whatever a third one is called between, and however often they are asked.
func TestTheSameOfTheSame(t *testing.T) {
	for seed := range int64(60) {
		r := rand.New(rand.NewSource(seed))
		names := someNames(3 + int(seed))
		a, b, other := tree.New(), tree.New(), tree.New()
		for range 80 {
			c := drawn(r, a, names, 50)
			err := try(a, c)
			try(other, drawn(r, other, names, 50))
			look(a)
			if e := try(b, c); e != err || look(a) != look(b) {
				t.Fatalf("%d %s, and %d %s", err, look(a), e, look(b))
			}
		}
	}
}

// P2: a tree tells what it is, not how it came to be so: its nodes come one way, and another, and by way of others.
func TestWhateverCameFirst(t *testing.T) {
	r := rand.New(rand.NewSource(13))
	for range 200 {
		x, m := tree.New(), &model{}
		names := someNames(20)
		for range 60 {
			do(t, x, m, drawn(r, x, names, 60))
		}
		x = tree.New()
		for _, i := range r.Perm(len(m.pairs)) {
			does(t, x, call{'c', m.pairs[i].name, "root"})
		}
		// From the highest on: so none is too deep on the way, and none comes below itself.
		for depth := 2; depth <= 8; depth++ {
			for _, i := range r.Perm(len(m.pairs)) {
				if p := m.pairs[i]; len(m.path(p.name)) == depth {
					does(t, x, call{'m', p.name, p.parent})
				}
			}
		}
		holds(t, x, m)
	}
}

// P1: every call ends, and none panics, of whatever texts, on whatever tree.
func TestAnyTexts(t *testing.T) {
	texts := append(oddities(), "a", "g", "y", "root", long24, strings.Repeat("\x00", 1<<16), strings.Repeat("a/", 1<<16))
	for _, x := range []*tree.Tree{nil, {}, tree.New(), chain(t, "abcdefg"), full(t)} {
		for _, name := range texts {
			for _, parent := range texts {
				x.Create(name, parent)
				x.Move(name, parent)
				x.Move(parent, name)
			}
			x.Has(name)
			x.Parent(name)
			x.Path(name)
			x.Children(name)
			x.Below(name)
			x.Remove(name)
		}
		x.All()
		upToTheRoot(t, x)
		if x != nil {
			noneIsLost(t, x)
		}
	}
}
