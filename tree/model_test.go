package tree_test

import (
	"fmt"
	"regexp"
	"slices"
	"sort"
	"testing"

	"scutage/api"
	"scutage/tree"
)

// asLabel says once more, in another way, what a label is.
var asLabel = regexp.MustCompile(`\A[a-z0-9]([a-z0-9-]{0,22}[a-z0-9])?\z`)

// pair is a node, and its parent.
type pair struct{ name, parent string }

// model says once more, without a map, what a tree has to tell: its nodes beside the root, as they came. What is below a node it asks from that node down.
type model struct{ pairs []pair }

func (m *model) has(name string) bool {
	return name == "root" || slices.ContainsFunc(m.pairs, func(p pair) bool { return p.name == name })
}

func (m *model) parent(name string) string {
	for _, p := range m.pairs {
		if p.name == name {
			return p.parent
		}
	}
	return ""
}

func (m *model) path(name string) []string {
	switch {
	case !m.has(name):
		return nil
	case name == "root":
		return []string{"root"}
	}
	return append([]string{name}, m.path(m.parent(name))...)
}

func (m *model) children(name string) []string {
	var l []string
	for _, p := range m.pairs {
		if p.parent == name {
			l = append(l, p.name)
		}
	}
	sort.Strings(l)
	return l
}

func (m *model) all() []string {
	l := []string{"root"}
	for _, p := range m.pairs {
		l = append(l, p.name)
	}
	sort.Strings(l)
	return l
}

func (m *model) below(name string) []string {
	if !m.has(name) {
		return nil
	}
	l := []string{name}
	for _, child := range m.children(name) {
		l = append(l, m.below(child)...)
	}
	sort.Strings(l)
	return l
}

// deep tells whether any node has a path that is too long.
func (m *model) deep() bool {
	return slices.ContainsFunc(m.all(), func(name string) bool { return len(m.path(name)) > 8 })
}

// take is the second model, unless it is too deep.
func (m *model) take(next *model) api.Errno {
	if next.deep() {
		return api.ErrDeep
	}
	m.pairs = next.pairs
	return api.OK
}

func (m *model) create(name, parent string) api.Errno {
	if !asLabel.MatchString(name) {
		return api.ErrArg
	}
	if m.has(name) {
		return api.ErrIs
	}
	if !m.has(parent) {
		return api.ErrNone
	}
	next := m.copied()
	next.pairs = append(next.pairs, pair{name, parent})
	if next.deep() {
		return api.ErrDeep
	}
	if len(next.all()) > 200 {
		return api.ErrFull
	}
	return m.take(next)
}

func (m *model) remove(name string) api.Errno {
	if !m.has(name) {
		return api.ErrNone
	}
	if name == "root" {
		return api.ErrArg
	}
	if len(m.children(name)) > 0 {
		return api.ErrLeaf
	}
	next := &model{}
	for _, p := range m.pairs {
		if p.name != name {
			next.pairs = append(next.pairs, p)
		}
	}
	return m.take(next)
}

func (m *model) move(name, parent string) api.Errno {
	if !m.has(name) || !m.has(parent) {
		return api.ErrNone
	}
	if name == "root" {
		return api.ErrArg
	}
	if slices.Contains(m.below(name), parent) {
		return api.ErrCycle
	}
	next := m.copied()
	for i := range next.pairs {
		if next.pairs[i].name == name {
			next.pairs[i].parent = parent
		}
	}
	return m.take(next)
}

// copied is a model of its own.
func (m *model) copied() *model {
	return &model{append([]pair{}, m.pairs...)}
}

// whole is all that is in it, as one text; whatever came first.
func (m *model) whole() string {
	l := slices.Clone(m.pairs)
	sort.Slice(l, func(i, j int) bool { return l[i].name < l[j].name })
	return fmt.Sprintf("%q", l)
}

// call is one of a tree that may change it: c(reate), r(emove), m(ove).
type call struct {
	does         byte
	name, parent string
}

// try calls it.
func try(x *tree.Tree, c call) api.Errno {
	switch c.does {
	case 'c':
		return x.Create(c.name, c.parent)
	case 'r':
		return x.Remove(c.name)
	default:
		return x.Move(c.name, c.parent)
	}
}

// try is what the chapter says of it.
func (m *model) try(c call) api.Errno {
	switch c.does {
	case 'c':
		return m.create(c.name, c.parent)
	case 'r':
		return m.remove(c.name)
	default:
		return m.move(c.name, c.parent)
	}
}

// do calls both, and holds what they answer against each other.
func do(t *testing.T, x *tree.Tree, m *model, c call) api.Errno {
	t.Helper()
	was := m.whole()
	got, want := try(x, c), m.try(c)
	if got != want {
		t.Fatalf("behind %s: %c %q %q: %d, not %d", was, c.does, c.name, c.parent, got, want)
	}
	if want != api.OK && m.whole() != was {
		t.Fatal("the model changes with an error")
	}
	return got
}

// beside are names that are asked for beside the nodes: such that are none, or are no labels.
func beside() []string { return []string{"", "none", "-", "Root", "root ", "\xff"} }

// look is all that a tree tells without being changed, of its nodes, and of some other names, as a text.
func look(x *tree.Tree) string {
	all := x.All()
	text := fmt.Sprintf("%q", all)
	for _, name := range append(beside(), all...) {
		text += fmt.Sprintf(" %q %v %q %q %q %q", name, x.Has(name), x.Parent(name), x.Path(name), x.Children(name), x.Below(name))
	}
	return text
}

// look is what it should be.
func (m *model) look() string {
	all := m.all()
	text := fmt.Sprintf("%q", all)
	for _, name := range append(beside(), all...) {
		text += fmt.Sprintf(" %q %v %q %q %q %q", name, m.has(name), m.parent(name), m.path(name), m.children(name), m.below(name))
	}
	return text
}

// holds tells whether a tree tells what the model has, and keeps what P11.2 and P11.3 say of each tree.
func holds(t *testing.T, x *tree.Tree, m *model) {
	t.Helper()
	if got, want := look(x), m.look(); got != want {
		t.Fatalf("%s:\n%s, not\n%s", m.whole(), got, want)
	}
	upToTheRoot(t, x)
	noneIsLost(t, x)
}

// upToTheRoot is P11.2: each node's path ends with the root, has no node twice, and at most 8.
func upToTheRoot(t *testing.T, x *tree.Tree) {
	t.Helper()
	for _, name := range x.All() {
		path, seen := x.Path(name), map[string]bool{}
		for _, node := range path {
			if seen[node] || !x.Has(node) {
				t.Fatalf("%q: %q: %s is twice, or none", name, path, node)
			}
			seen[node] = true
		}
		if len(path) == 0 || len(path) > 8 || path[0] != name || path[len(path)-1] != "root" {
			t.Fatalf("%q: %q", name, path)
		}
	}
}

// noneIsLost is P11.3: the root, and the children of all, are all nodes, each once.
func noneIsLost(t *testing.T, x *tree.Tree) {
	t.Helper()
	l := []string{"root"}
	for _, name := range x.All() {
		l = append(l, x.Children(name)...)
	}
	sort.Strings(l)
	if !slices.Equal(l, x.All()) || len(slices.Compact(l)) != len(x.All()) || len(l) > 200 {
		t.Fatalf("%q, not %q", l, x.All())
	}
}
