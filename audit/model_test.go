package audit_test

import (
	"fmt"
	"math/big"
	"slices"
	"strings"
	"testing"

	"scutage/api"
	"scutage/audit"
	"scutage/object"
	"scutage/tree"
	"scutage/vector"
)

// model says once more what a table has to tell: it keeps the objects, and each node's path as it was, and adds up when it is asked.
type model struct {
	scopes  []api.Scope
	objects []api.Object
	paths   map[string][]string
}

func modelOf(scopes []api.Scope, objects []api.Object, x *tree.Tree) *model {
	m := &model{scopes: scopes, paths: map[string][]string{}}
	for _, o := range objects {
		m.objects = append(m.objects, object.Own(o))
	}
	for _, node := range x.All() {
		m.paths[node] = x.Path(node)
	}
	return m
}

// matches says once more whether a scope that may be matches an object.
func matches(s api.Scope, o api.Object) bool {
	for _, term := range s {
		listed := slices.Contains(term.Values, o.Class)
		if ![]bool{listed, !listed, o.Class != "", o.Class == "", o.Terminating, !o.Terminating, o.Best, !o.Best}[term.Op] {
			return false
		}
	}
	return true
}

// sum adds up the objects of the spaces that count, in numbers of any length, as a text; and tells whether all of them fit into 64 bits.
func (m *model) sum(i int, counts func(space string) bool) (string, bool) {
	totals, fits := map[string]*big.Int{}, true
	var names, entries []string
	for _, o := range m.objects {
		if i < 0 || i >= len(m.scopes) || !counts(o.Key.Space) || !matches(m.scopes[i], o) {
			continue
		}
		for _, r := range append([]api.Resource{{Name: "objects", N: 1}}, o.Charge...) {
			if totals[r.Name] == nil {
				totals[r.Name] = new(big.Int)
				names = append(names, r.Name)
			}
			totals[r.Name].Add(totals[r.Name], big.NewInt(r.N))
		}
	}
	slices.Sort(names)
	for _, name := range names {
		fits = fits && totals[name].IsInt64()
		if totals[name].Sign() != 0 {
			entries = append(entries, name+"="+totals[name].String())
		}
	}
	return strings.Join(entries, ","), fits
}

func (m *model) own(space string, i int) string {
	text, _ := m.sum(i, func(of string) bool { return of == space })
	return text
}

func (m *model) all(space string, i int) (string, bool) {
	return m.sum(i, func(of string) bool { return slices.Contains(m.paths[of], space) })
}

// told is a sum as a text, entry by entry as they stand.
func told(v api.Vector) string {
	var entries []string
	for _, e := range v {
		n := new(big.Int).Lsh(big.NewInt(e.N.Hi), 64)
		n.Add(n, new(big.Int).SetUint64(e.N.Lo))
		entries = append(entries, e.Name+"="+n.String())
	}
	return strings.Join(entries, ",")
}

// beside are spaces that are asked for beside those that have anything.
func beside() []string { return []string{"", "a", "b", "c", "a-b", "root", "none", "A", "a/b", "\xff"} }

// holds tells of all that there is to ask whether it is what the model has.
func holds(t *testing.T, f *audit.Table, m *model) {
	t.Helper()
	spaces := beside()
	for _, o := range m.objects {
		spaces = append(spaces, o.Key.Space)
	}
	for node := range m.paths {
		spaces = append(spaces, node)
	}
	slices.Sort(spaces)
	for _, space := range slices.Compact(spaces) {
		for i := -1; i <= len(m.scopes); i++ {
			own, all := f.Own(space, i), f.All(space, i)
			if got, want := told(own), m.own(space, i); got != want || !vector.Right(own) {
				t.Fatalf("own of %q, %d: %s, not %s", space, i, got, want)
			}
			want, fits := m.all(space, i)
			if got := told(all); got != want || !vector.Right(all) || f.Over(space, i) == fits {
				t.Fatalf("all of %q, %d: %s, over %v, not %s, fits %v", space, i, got, f.Over(space, i), want, fits)
			}
		}
	}
}

// down is P14.2, of a table of a tree that is as it was: all of a node is its own, and all of its children; of the root it is the sum of the own ones of all nodes.
func down(t *testing.T, f *audit.Table, x *tree.Tree, scopes int) {
	t.Helper()
	for i := range scopes {
		var owns []api.Vector
		for _, node := range x.All() {
			parts := []api.Vector{f.Own(node, i)}
			owns = append(owns, parts...)
			for _, child := range x.Children(node) {
				parts = append(parts, f.All(child, i))
				if f.Over(child, i) && !f.Over(node, i) {
					t.Fatalf("%s, %d is over, and %s above it is not", child, i, node)
				}
			}
			if got, want := told(f.All(node, i)), told(added(t, parts)); got != want {
				t.Fatalf("all of %s, %d: %s, not %s", node, i, got, want)
			}
		}
		if got, want := told(f.All(api.Root, i)), told(added(t, owns)); got != want {
			t.Fatalf("all of the root, %d: %s, not %s", i, got, want)
		}
	}
}

// added is the sum of vectors.
func added(t *testing.T, l []api.Vector) api.Vector {
	t.Helper()
	var sum api.Vector
	for _, v := range l {
		var e api.Errno
		if sum, e = vector.Add(sum, v); e != api.OK {
			t.Fatal(e)
		}
	}
	return sum
}

// whole is all that is in something, as one text, but whether a list without elements is nil.
func whole(x any) string { return fmt.Sprintf("%+v", x) }

// shape is all nodes of a tree, each with its parent, as a text.
func shape(x *tree.Tree) string {
	var l []string
	for _, node := range x.All() {
		l = append(l, node+"/"+x.Parent(node))
	}
	return strings.Join(l, " ")
}

// look is all that a table tells of some spaces, as a text, without what any second telling says.
func look(f *audit.Table, spaces []string) string {
	var text strings.Builder
	for _, space := range append(beside(), spaces...) {
		for i := -1; i <= api.MaxBuckets; i++ {
			fmt.Fprintf(&text, "%q %d %s %s %v\n", space, i, told(f.Own(space, i)), told(f.All(space, i)), f.Over(space, i))
		}
	}
	return text.String()
}
