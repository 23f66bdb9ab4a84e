package marks_test

import (
	"fmt"
	"math/rand"
	"slices"
	"strings"
	"testing"

	"scutage/api"
	"scutage/marks"
	"scutage/tree"
)

// everyTree are all trees whose nodes are the root, and some of these names: each name has each parent, or is none.
func everyTree(names []string) []*tree.Tree {
	trees := []*tree.Tree{nil}
	count := len(names) + 2
	all := 1
	for range names {
		all *= count
	}
	for number := range all {
		parents := map[string]string{}
		for i, rest := 0, number; i < len(names); i, rest = i+1, rest/count {
			if which := rest % count; which > 0 {
				parents[names[i]] = append([]string{"root"}, names...)[which-1]
			}
		}
		if x := asTold(names, parents); len(x.All()) == len(parents)+1 {
			trees = append(trees, x)
		}
	}
	return trees
}

// asTold is the tree of these parents; it lacks what does not hang on the root.
func asTold(names []string, parents map[string]string) *tree.Tree {
	x := tree.New()
	for range names {
		for _, name := range names {
			if parent, is := parents[name]; is {
				x.Create(name, parent)
			}
		}
	}
	return x
}

// everyCall are Clears of each of these names, and Marks of each list of up to two, of some of three.
func everyCall(names []string) []call {
	calls := []call{{'m', nil}, {'m', names}}
	for i, one := range names {
		calls = append(calls, call{'c', []string{one}}, call{'m', []string{one}})
		for _, other := range names {
			calls = append(calls, call{'m', []string{one, other}}, call{'m', []string{other, names[(i+1)%len(names)], one}})
		}
	}
	return calls
}

// P12.1: each call of a small world, at each state to which its calls lead, with each tree; a call with an error changes nothing. Of 6 names there are 64 states; of 3 names, and the root, 29 trees, and none.
func TestAllStates(t *testing.T) {
	names := []string{"a", "", "c", "root", "b", "x"}
	trees := everyTree([]string{"a", "b", "c"})
	if len(trees) != 30 {
		t.Errorf("%d trees", len(trees))
	}
	calls := append(everyCall(names), call{'c', []string{"y"}}, call{'c', []string{"Root"}})
	type way struct {
		second *model
		path   []call
	}
	ways := []way{{second: &model{}}}
	seen := map[string]bool{ways[0].second.whole(): true}
	for i := 0; i < len(ways); i++ {
		w := ways[i]
		for _, c := range calls {
			m := marks.New()
			for _, step := range w.path {
				does(t, m, step)
			}
			holds(t, m, w.second, trees)
			second := w.second.copied()
			do(t, m, second, c)
			holds(t, m, second, trees)
			if !seen[second.whole()] {
				seen[second.whole()] = true
				ways = append(ways, way{second, append(slices.Clone(w.path), c)})
			}
		}
	}
	if len(ways) != 64 {
		t.Errorf("%d states", len(ways))
	}
}

// P12.2: each tree of 4 names, with each choice of nodes whose paths are marked, and with what is no node beside them.
func TestDeepestFirstOfAll(t *testing.T) {
	names := []string{"d", "b", "a", "c"}
	trees := everyTree(names)
	if len(trees) != 213 {
		t.Errorf("%d trees", len(trees))
	}
	for _, x := range trees {
		nodes := x.All()
		for choice := range 1 << len(nodes) {
			m := marked(t, "", "0", "bb", "x")
			for i, node := range nodes {
				if choice>>i&1 == 1 {
					does(t, m, call{'m', x.Path(node)})
				}
			}
			count := len(m.All())
			if came := deepestFirst(t, m, x); len(came) != count-4 {
				t.Fatalf("%q of %d", came, count)
			}
			are(t, m, "", "0", "bb", "x")
		}
	}
}

// someNames are so many names; each is ahead of some that come first.
func someNames(count int) []string {
	var l []string
	for i := range count {
		l = append(l, fmt.Sprintf("%c%d", 'a'+i*7%26, i))
	}
	return l
}

// drawnTree is a tree of some of these names, each below any node that takes it.
func drawnTree(r *rand.Rand, names []string) *tree.Tree {
	x := tree.New()
	for _, i := range r.Perm(len(names)) {
		if nodes := x.All(); r.Intn(8) > 0 {
			x.Create(names[i], nodes[r.Intn(len(nodes))])
		}
	}
	return x
}

// drawn is a call with some of these names, now and then with other texts; so many of 100 are Marks.
func drawn(r *rand.Rand, names []string, share int) call {
	c := call{'c', []string{names[r.Intn(len(names))]}}
	if r.Intn(100) < share {
		c = call{'m', nil}
		for range r.Intn(4) {
			c.names = append(c.names, names[r.Intn(len(names))])
		}
	}
	if len(c.names) > 0 && r.Intn(20) == 0 {
		c.names[0] = oddities()[r.Intn(len(oddities()))]
	}
	return c
}

// P12.1, of long lists of calls, with trees that change between.
func TestLongLists(t *testing.T) {
	r := rand.New(rand.NewSource(12))
	answers := map[api.Errno]int{}
	found := map[bool]int{}
	for round := range 150 {
		names := append(someNames(2+round%30), "root")
		m, second := marks.New(), &model{}
		trees := []*tree.Tree{nil, tree.New(), drawnTree(r, names), drawnTree(r, names)}
		for range 120 {
			answers[do(t, m, second, drawn(r, names, 10+round%60))]++
			trees[2].Move(names[r.Intn(len(names))], names[r.Intn(len(names))])
			trees[3].Remove(names[r.Intn(len(names))])
			trees[3].Create(names[r.Intn(len(names))], names[r.Intn(len(names))])
			holds(t, m, second, trees)
			_, is := m.Next(trees[3])
			found[is]++
		}
	}
	for _, err := range []api.Errno{api.OK, api.ErrNone} {
		if answers[err] < 1000 {
			t.Errorf("only %d of %d", answers[err], err)
		}
	}
	if found[true] < 1000 || found[false] < 1000 {
		t.Errorf("%v", found)
	}
}

// P12.2, of trees of up to 200 nodes, with paths that are marked between.
func TestDeepestFirstOfGreatTrees(t *testing.T) {
	r := rand.New(rand.NewSource(122))
	for round := range 60 {
		x := drawnTree(r, someNames(4*round))
		nodes := x.All()
		m := marked(t, "", "x", "0")
		for range 3 {
			for range 1 + r.Intn(2*len(nodes)) {
				does(t, m, call{'m', x.Path(nodes[r.Intn(len(nodes))])})
			}
			for range r.Intn(len(m.All())) {
				if next, is := m.Next(x); is {
					does(t, m, call{'c', []string{next}})
				}
			}
		}
		deepestFirst(t, m, x)
		are(t, m, "", "0", "x")
	}
}

// P12.2: as many Clears of the next one as there are nodes, of all that are marked, leave none; each comes once, ahead of its parent.
func TestAllNodesComeOnce(t *testing.T) {
	r := rand.New(rand.NewSource(200))
	for range 20 {
		x := drawnTree(r, someNames(300))
		m := marked(t, x.All()...)
		came := deepestFirst(t, m, x)
		for i, node := range came {
			if parent := x.Parent(node); parent != "" && slices.Index(came, parent) <= i {
				t.Fatalf("%s, and its parent %s: %q", node, parent, came)
			}
			if i == 0 {
				continue
			}
			if is, was := depthOf(x, node), depthOf(x, came[i-1]); is > was || is == was && node <= came[i-1] {
				t.Fatalf("%q behind %q", node, came[i-1])
			}
		}
		slices.Sort(came)
		if !slices.Equal(came, x.All()) {
			t.Fatalf("%q, not %q", came, x.All())
		}
		are(t, m)
	}
}

// P2: two of the same calls tell the same, whatever a third one is called between, and however often they are asked.
func TestTheSameOfTheSame(t *testing.T) {
	for seed := range int64(60) {
		r := rand.New(rand.NewSource(seed))
		names := append(someNames(3+int(seed)), "root")
		trees := []*tree.Tree{drawnTree(r, names), drawnTree(r, names)}
		a, b, other := marks.New(), marks.New(), marks.New()
		for range 80 {
			c := drawn(r, names, 50)
			err := try(a, c)
			try(other, drawn(r, names, 50))
			look(a, trees)
			if e := try(b, c); e != err || look(a, trees) != look(b, trees) {
				t.Fatalf("%d %s, and %d %s", err, look(a, trees), e, look(b, trees))
			}
		}
	}
}

// P2: marks tell what they are, not how they came to be so: the names come one way, and another, and by way of others.
func TestWhateverCameFirst(t *testing.T) {
	r := rand.New(rand.NewSource(13))
	for range 200 {
		names := append(someNames(20), "root")
		trees := []*tree.Tree{drawnTree(r, names), drawnTree(r, names)}
		m, second := marks.New(), &model{}
		for range 60 {
			do(t, m, second, drawn(r, names, 60))
		}
		again := marks.New()
		for _, i := range r.Perm(len(second.names)) {
			does(t, again, call{'m', []string{second.names[i]}})
		}
		if look(m, trees) != look(again, trees) || look(m, trees) != look(marked(t, second.names...), trees) {
			t.Fatalf("%q, and %q", m.All(), again.All())
		}
	}
}

// P1: every call ends, and none panics, of whatever texts, on whatever marks, with whatever tree.
func TestAnyTexts(t *testing.T) {
	texts := append(oddities(), "a", "root", long24, strings.Repeat("\x00", 1<<16), strings.Repeat("a/", 1<<16))
	for _, m := range []*marks.Marks{nil, {}, marks.New(), marked(t, "a", "root"), marked(t, texts...)} {
		for _, x := range few(t) {
			for i, text := range texts {
				m.Next(x)
				m.Has(text)
				m.Clear(text)
				m.Mark(texts[:i])
				m.Clear(text)
				m.Mark([]string{text, text})
			}
			m.Mark(nil)
			m.All()
			m.Next(x)
		}
	}
}
