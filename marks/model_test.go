package marks_test

import (
	"fmt"
	"slices"
	"sort"
	"strings"
	"testing"

	"scutage/api"
	"scutage/marks"
	"scutage/tree"
)

// model says once more, without a map, what marks have to tell: the names, as they came.
type model struct{ names []string }

func (m *model) has(name string) bool {
	for _, marked := range m.names {
		if marked == name {
			return true
		}
	}
	return false
}

func (m *model) mark(l []string) api.Errno {
	for _, name := range l {
		if !m.has(name) {
			m.names = append(m.names, name)
		}
	}
	return api.OK
}

func (m *model) clear(name string) api.Errno {
	for i, marked := range m.names {
		if marked == name {
			m.names = append(append([]string{}, m.names[:i]...), m.names[i+1:]...)
			return api.OK
		}
	}
	return api.ErrNone
}

func (m *model) all() []string {
	l := append([]string{}, m.names...)
	sort.Strings(l)
	return l
}

// next goes through the nodes, as they rise, once for each depth, from the greatest on.
func (m *model) next(x *tree.Tree) (string, bool) {
	for depth := api.MaxDepth; depth > 0; depth-- {
		for _, node := range x.All() {
			if m.has(node) && depthOf(x, node) == depth {
				return node, true
			}
		}
	}
	return "", false
}

// depthOf is a node's depth, counted by its parents.
func depthOf(x *tree.Tree, node string) int {
	if node == "root" {
		return 1
	}
	return 1 + depthOf(x, x.Parent(node))
}

// copied is a model of its own.
func (m *model) copied() *model { return &model{append([]string{}, m.names...)} }

// whole is all that is in it, as one text; whatever came first.
func (m *model) whole() string { return fmt.Sprintf("%q", m.all()) }

// call is one of marks that may change them: m(ark) of names, c(lear) of one.
type call struct {
	does  byte
	names []string
}

// try calls it.
func try(m *marks.Marks, c call) api.Errno {
	if c.does == 'm' {
		return m.Mark(c.names)
	}
	return m.Clear(c.names[0])
}

// try is what the chapter says of it.
func (m *model) try(c call) api.Errno {
	if c.does == 'm' {
		return m.mark(c.names)
	}
	return m.clear(c.names[0])
}

// do calls both, and holds what they answer against each other.
func do(t *testing.T, m *marks.Marks, second *model, c call) api.Errno {
	t.Helper()
	was := second.whole()
	got, want := try(m, c), second.try(c)
	if got != want {
		t.Fatalf("behind %s: %c %q: %d, not %d", was, c.does, c.names, got, want)
	}
	return got
}

// beside are names that are asked for beside those that are marked: such that are no labels, too.
func beside() []string {
	return []string{"", "a", "b", "c", "root", "x", "-", "Root", "root ", "\x00", "\xff"}
}

// look is all that marks tell without being changed, of some trees, too, as a text.
func look(m *marks.Marks, trees []*tree.Tree) string {
	all := m.All()
	var text strings.Builder
	fmt.Fprintf(&text, "%q", all)
	for _, name := range append(beside(), all...) {
		fmt.Fprintf(&text, " %q %v", name, m.Has(name))
	}
	for _, x := range trees {
		next, is := m.Next(x)
		fmt.Fprintf(&text, " %q %v", next, is)
	}
	return text.String()
}

// look is what it should be.
func (m *model) look(trees []*tree.Tree) string {
	all := m.all()
	var text strings.Builder
	fmt.Fprintf(&text, "%q", all)
	for _, name := range append(beside(), all...) {
		fmt.Fprintf(&text, " %q %v", name, m.has(name))
	}
	for _, x := range trees {
		next, is := m.next(x)
		fmt.Fprintf(&text, " %q %v", next, is)
	}
	return text.String()
}

// holds tells whether marks tell what the model has.
func holds(t *testing.T, m *marks.Marks, second *model, trees []*tree.Tree) {
	t.Helper()
	if got, want := look(m, trees), second.look(trees); got != want {
		t.Fatalf("%s:\n%s, not\n%s", second.whole(), got, want)
	}
}

// wholePaths tells whether with each node that is marked all of its path is.
func wholePaths(m *marks.Marks, x *tree.Tree) bool {
	for _, name := range m.All() {
		for node := name; x.Has(node); node = x.Parent(node) {
			if !m.Has(node) {
				return false
			}
		}
	}
	return true
}

// deepestFirst is P12.2: of marks with whole paths, it clears the next one again and again; it tells which ones came, in their order.
func deepestFirst(t *testing.T, m *marks.Marks, x *tree.Tree) []string {
	t.Helper()
	if !wholePaths(m, x) {
		t.Fatalf("%q: not all paths are marked", m.All())
	}
	var came []string
	for {
		next, is := m.Next(x)
		if !is {
			return came
		}
		for _, node := range x.Below(next) {
			if m.Has(node) != (node == next) {
				t.Fatalf("%q: the next one is %q, and %q: %v", m.All(), next, node, m.Has(node))
			}
		}
		if err := m.Clear(next); err != api.OK || m.Has(next) || slices.Contains(m.All(), next) {
			t.Fatalf("Clear %q: %d, and then %q", next, err, m.All())
		}
		if !wholePaths(m, x) {
			t.Fatalf("behind a Clear of %q, not all paths of %q are marked", next, m.All())
		}
		came = append(came, next)
	}
}
