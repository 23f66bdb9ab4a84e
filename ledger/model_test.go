package ledger_test

import (
	"fmt"
	"maps"
	"math/big"
	"slices"
	"strings"
	"testing"

	"scutage/api"
	"scutage/ledger"
	"scutage/object"
	"scutage/tree"
	"scutage/vector"
)

// amounts are how much there is of each name, in numbers of any length; one of 0 is as none.
type amounts map[string]*big.Int

func (a amounts) add(name string, n *big.Int) {
	if a[name] == nil {
		a[name] = new(big.Int)
	}
	a[name].Add(a[name], n)
}

func (a amounts) addAll(b amounts) {
	for name, n := range b {
		a.add(name, n)
	}
}

func (a amounts) fits() bool {
	for _, n := range a {
		if !n.IsInt64() {
			return false
		}
	}
	return true
}

func (a amounts) text() string {
	var entries []string
	for _, name := range slices.Sorted(maps.Keys(a)) {
		if a[name].Sign() != 0 {
			entries = append(entries, name+"="+a[name].String())
		}
	}
	return strings.Join(entries, ",")
}

// model says once more what a ledger has to tell, in numbers of any length; which tree may be, package tree tells.
type model struct {
	scopes []api.Scope
	t      *tree.Tree
	own    map[api.Bucket]amounts
	kept   map[api.Bucket]amounts
	over   map[api.Bucket]bool
	dirty  map[string]bool
}

func modelOf(scopes []api.Scope) *model {
	return &model{scopes, tree.New(), map[api.Bucket]amounts{}, map[api.Bucket]amounts{}, map[api.Bucket]bool{}, map[string]bool{}}
}

// matches says once more whether a scope that may be matches an object.
func matches(s api.Scope, o api.Object) bool {
	for _, term := range s {
		listed := slices.Contains(term.Values, o.Class)
		if ![]bool{listed, !listed, o.Class != "", o.Class == "", o.Terminating, !o.Terminating, o.Best, !o.Best}[term.Op] {
			return false
		}
	}
	return true
}

// count adds an object's charge, so many times, to the sums that it counts in.
func (m *model) count(sums map[api.Bucket]amounts, o api.Object, times int64) {
	for i, s := range m.scopes {
		if !matches(s, o) {
			continue
		}
		b := api.Bucket{Space: o.Key.Space, Scope: i}
		if sums[b] == nil {
			sums[b] = amounts{}
		}
		sums[b].add("objects", big.NewInt(times))
		for _, r := range o.Charge {
			n := big.NewInt(r.N)
			sums[b].add(r.Name, n.Mul(n, big.NewInt(times)))
		}
	}
}

// owns are all own sums of a space, as a text.
func (m *model) owns(space string) string {
	var l []string
	for i := range m.scopes {
		l = append(l, m.own[api.Bucket{Space: space, Scope: i}].text())
	}
	return strings.Join(l, ";")
}

// exceed lets all of a node's path be over.
func (m *model) exceed(node string, i int) {
	for _, above := range m.t.Path(node) {
		m.over[api.Bucket{Space: above, Scope: i}] = true
	}
}

func (m *model) touch(node string) {
	for _, above := range m.t.Path(node) {
		m.dirty[above] = true
	}
	for i := range m.scopes {
		if !m.own[api.Bucket{Space: node, Scope: i}].fits() {
			m.exceed(node, i)
		}
	}
}

func (m *model) apply(d []api.Delta) api.Errno {
	was := map[string]string{}
	for _, x := range d {
		if x.Had && (x.Old.Key != x.Key || !object.Right(x.Old)) || x.Has && (x.New.Key != x.Key || !object.Right(x.New)) {
			return api.ErrArg
		}
		was[x.Key.Space] = m.owns(x.Key.Space)
	}
	for _, x := range d {
		if x.Had {
			m.count(m.own, x.Old, -1)
		}
		if x.Has {
			m.count(m.own, x.New, 1)
		}
	}
	for space, owns := range was {
		if m.t.Has(space) && m.owns(space) != owns {
			m.touch(space)
		}
	}
	return api.OK
}

func (m *model) create(name, parent string) api.Errno {
	e := m.t.Create(name, parent)
	if e == api.OK {
		m.touch(name)
	}
	return e
}

func (m *model) remove(name string) api.Errno {
	parent := m.t.Parent(name)
	e := m.t.Remove(name)
	if e == api.OK {
		delete(m.dirty, name)
		of := func(b api.Bucket) bool { return b.Space == name }
		maps.DeleteFunc(m.kept, func(b api.Bucket, _ amounts) bool { return of(b) })
		maps.DeleteFunc(m.over, func(b api.Bucket, _ bool) bool { return of(b) })
		m.touch(parent)
	}
	return e
}

func (m *model) move(name, parent string) api.Errno {
	was := m.t.Parent(name)
	e := m.t.Move(name, parent)
	if e == api.OK {
		m.touch(was)
		m.touch(parent)
		for i := range m.scopes {
			if m.over[api.Bucket{Space: name, Scope: i}] {
				m.exceed(name, i)
			}
		}
	}
	return e
}

func (m *model) step(budget int) ([]string, api.Errno) {
	if budget < 1 {
		return nil, api.ErrArg
	}
	var worked []string
	for ; budget > 0 && len(m.dirty) > 0; budget-- {
		next := slices.MinFunc(slices.Collect(maps.Keys(m.dirty)), func(a, b string) int {
			if x, y := len(m.t.Path(a)), len(m.t.Path(b)); x != y {
				return y - x
			}
			return strings.Compare(a, b)
		})
		for i := range m.scopes {
			sum := amounts{}
			sum.addAll(m.own[api.Bucket{Space: next, Scope: i}])
			for _, node := range m.t.All() {
				if m.t.Parent(node) == next {
					sum.addAll(m.kept[api.Bucket{Space: node, Scope: i}])
				}
			}
			m.kept[api.Bucket{Space: next, Scope: i}] = sum
			if !sum.fits() {
				m.exceed(next, i)
			}
		}
		delete(m.dirty, next)
		worked = append(worked, next)
	}
	return worked, api.OK
}

// all is the sum of the own ones of the nodes on whose path a node is.
func (m *model) all(own map[api.Bucket]amounts, node string, i int) amounts {
	sum := amounts{}
	if i < 0 || i >= len(m.scopes) {
		return sum
	}
	for _, below := range m.t.All() {
		if slices.Contains(m.t.Path(below), node) {
			sum.addAll(own[api.Bucket{Space: below, Scope: i}])
		}
	}
	return sum
}

func (m *model) recount(objects []api.Object) (int, api.Errno) {
	own, kept, over := map[api.Bucket]amounts{}, map[api.Bucket]amounts{}, map[api.Bucket]bool{}
	for _, o := range objects {
		if !object.Right(o) {
			return 0, api.ErrArg
		}
		m.count(own, o, 1)
	}
	drift := 0
	for _, node := range m.t.All() {
		for i := range m.scopes {
			b := api.Bucket{Space: node, Scope: i}
			kept[b] = m.all(own, node, i)
			over[b] = !kept[b].fits()
			if own[b].text() != m.own[b].text() || kept[b].text() != m.kept[b].text() {
				drift++
			}
		}
	}
	m.own, m.kept, m.over, m.dirty = own, kept, over, map[string]bool{}
	return drift, api.OK
}

// told is a sum as a text, entry by entry as they stand.
func told(v api.Vector) string {
	var entries []string
	for _, e := range v {
		n := new(big.Int).Lsh(big.NewInt(e.N.Hi), 64)
		n.Add(n, new(big.Int).SetUint64(e.N.Lo))
		entries = append(entries, e.Name+"="+n.String())
	}
	return strings.Join(entries, ",")
}

// tells is all that a ledger tells of a space, with a number, as a text.
func tells(l *ledger.Ledger, space string, i int) string {
	return fmt.Sprintf("own %s kept %s true %s over %v", told(l.Own(space, i)), told(l.Kept(space, i)), told(l.True(space, i)), l.Over(space, i))
}

func (m *model) tells(space string, i int) string {
	b := api.Bucket{Space: space, Scope: i}
	return fmt.Sprintf("own %s kept %s true %s over %v", m.own[b].text(), m.kept[b].text(), m.all(m.own, space, i).text(), m.over[b])
}

// beside are spaces that are asked for beside those that have anything.
func beside() []string { return []string{"", "none", "A", "\xff"} }

// holds tells of all that there is to ask whether it is what the model has.
func holds(t *testing.T, l *ledger.Ledger, m *model) {
	t.Helper()
	if got, want := l.Dirty(), slices.Sorted(maps.Keys(m.dirty)); !slices.Equal(got, want) {
		t.Fatalf("dirty %q, not %q", got, want)
	}
	if got, want := shape(l.Tree()), shape(m.t); got != want {
		t.Fatalf("tree %s, not %s", got, want)
	}
	if got, want := whole(l.Scopes()), whole(m.scopes); got != want {
		t.Fatalf("scopes %s, not %s", got, want)
	}
	spaces := append(beside(), m.t.All()...)
	for b := range m.own {
		spaces = append(spaces, b.Space)
	}
	slices.Sort(spaces)
	for _, space := range slices.Compact(spaces) {
		for i := -1; i <= len(m.scopes); i++ {
			if got, want := tells(l, space, i), m.tells(space, i); got != want {
				t.Fatalf("%q, %d: %s, not\n%s", space, i, got, want)
			}
		}
	}
	promised(t, l)
}

// promised is what the chapter promises of a ledger at any time, by what it tells itself (P15.2, P15.5).
func promised(t *testing.T, l *ledger.Ledger) {
	t.Helper()
	x, dirty := l.Tree(), l.Dirty()
	for _, node := range dirty {
		if parent := x.Parent(node); !x.Has(node) || parent != "" && !slices.Contains(dirty, parent) {
			t.Fatalf("%s is dirty, of %q", node, dirty)
		}
	}
	for _, node := range x.All() {
		for i := range l.Scopes() {
			parts := []api.Vector{l.Own(node, i)}
			for _, child := range x.Children(node) {
				parts = append(parts, l.Kept(child, i))
			}
			kept := told(l.Kept(node, i))
			if !slices.Contains(dirty, node) && (kept != told(added(t, parts)) || kept != told(l.True(node, i))) {
				t.Fatalf("%s, %d is clean, and has %s of %v, where %s is true", node, i, kept, parts, told(l.True(node, i)))
			}
			if len(dirty) == 0 && !vector.Fits(l.True(node, i)) && !l.Over(node, i) {
				t.Fatalf("%s, %d is not over", node, i)
			}
			if parent := x.Parent(node); l.Over(node, i) && parent != "" && !l.Over(parent, i) {
				t.Fatalf("%s, %d is over, and %s above it is not", node, i, parent)
			}
			for _, v := range []api.Vector{l.Own(node, i), l.Kept(node, i), l.True(node, i)} {
				if !vector.Right(v) {
					t.Fatalf("%s, %d: %v", node, i, v)
				}
			}
		}
	}
}

// added is the sum of vectors.
func added(t *testing.T, l []api.Vector) api.Vector {
	t.Helper()
	var sum api.Vector
	for _, v := range l {
		var e api.Errno
		if sum, e = vector.Add(sum, v); e != api.OK {
			t.Fatal(e)
		}
	}
	return sum
}

// whole is all that is in something, as one text, but whether a list without elements is nil.
func whole(x any) string { return fmt.Sprintf("%+v", x) }

// shape is all nodes of a tree, each with its parent, as a text.
func shape(x *tree.Tree) string {
	var l []string
	for _, node := range x.All() {
		l = append(l, node+"/"+x.Parent(node))
	}
	return strings.Join(l, " ")
}

// look is all that a ledger tells of its nodes, and of some spaces, as a text, without what any second telling says.
func look(l *ledger.Ledger, spaces ...string) string {
	var text strings.Builder
	fmt.Fprintf(&text, "%+v %s %q\n", l.Scopes(), shape(l.Tree()), l.Dirty())
	for _, space := range slices.Concat(beside(), l.Tree().All(), spaces) {
		for i := -1; i <= len(l.Scopes()); i++ {
			fmt.Fprintf(&text, "%q %d %s\n", space, i, tells(l, space, i))
		}
	}
	return text.String()
}

// act is one that is done to a ledger, and to the model of it; what each answers is a text.
type act struct {
	name string
	to   func(l *ledger.Ledger) string
	of   func(m *model) string
}

func applies(d ...api.Delta) act {
	return act{whole(d), func(l *ledger.Ledger) string { return whole(l.Apply(d)) }, func(m *model) string { return whole(m.apply(d)) }}
}

func creates(name, parent string) act {
	return act{"create " + name + " " + parent, func(l *ledger.Ledger) string { return whole(l.Create(name, parent)) }, func(m *model) string { return whole(m.create(name, parent)) }}
}

func removes(name string) act {
	return act{"remove " + name, func(l *ledger.Ledger) string { return whole(l.Remove(name)) }, func(m *model) string { return whole(m.remove(name)) }}
}

func moves(name, parent string) act {
	return act{"move " + name + " " + parent, func(l *ledger.Ledger) string { return whole(l.Move(name, parent)) }, func(m *model) string { return whole(m.move(name, parent)) }}
}

// answered is a value, and an error.
func answered[T any](x T, e api.Errno) string { return fmt.Sprintf("%v %d", x, e) }

func steps(budget int) act {
	return act{fmt.Sprint("step ", budget), func(l *ledger.Ledger) string { return answered(l.Step(budget)) }, func(m *model) string { return answered(m.step(budget)) }}
}

func recounts(objects ...api.Object) act {
	return act{"recount " + whole(objects), func(l *ledger.Ledger) string { return answered(l.Recount(objects)) }, func(m *model) string { return answered(m.recount(objects)) }}
}

// do does acts to both, and holds what they answer against each other.
func do(t *testing.T, l *ledger.Ledger, m *model, acts ...act) {
	t.Helper()
	for _, a := range acts {
		if got, want := a.to(l), a.of(m); got != want {
			t.Fatalf("%s: %s, not %s", a.name, got, want)
		}
	}
}
