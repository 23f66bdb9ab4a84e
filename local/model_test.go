package local_test

import (
	"fmt"
	"math/big"
	"slices"
	"strings"
	"testing"

	"scutage/api"
	"scutage/local"
	"scutage/object"
)

// part is an object that came, or one that went.
type part struct {
	o    api.Object
	went bool
}

// model says once more what sums have to tell: it keeps each object that came, or went, and adds up when it is asked.
type model struct {
	scopes []api.Scope
	parts  []part
}

// matches says once more whether a scope that may be matches an object.
func matches(s api.Scope, o api.Object) bool {
	for _, term := range s {
		listed := slices.Contains(term.Values, o.Class)
		if ![]bool{listed, !listed, o.Class != "", o.Class == "", o.Terminating, !o.Terminating, o.Best, !o.Best}[term.Op] {
			return false
		}
	}
	return true
}

// sum adds up, in numbers of any length, as a text.
func (m *model) sum(space string, i int) string {
	if i < 0 || i >= len(m.scopes) {
		return ""
	}
	totals := map[string]*big.Int{}
	var names []string
	for _, p := range m.parts {
		if p.o.Key.Space != space || !matches(m.scopes[i], p.o) {
			continue
		}
		for _, r := range append([]api.Resource{{Name: "objects", N: 1}}, p.o.Charge...) {
			if totals[r.Name] == nil {
				totals[r.Name] = new(big.Int)
				names = append(names, r.Name)
			}
			n := big.NewInt(r.N)
			if p.went {
				n.Neg(n)
			}
			totals[r.Name].Add(totals[r.Name], n)
		}
	}
	slices.Sort(names)
	var entries []string
	for _, name := range names {
		if totals[name].Sign() != 0 {
			entries = append(entries, name+"="+totals[name].String())
		}
	}
	return strings.Join(entries, ",")
}

// told is a sum as a text, entry by entry as they stand.
func told(v api.Vector) string {
	var entries []string
	for _, e := range v {
		n := new(big.Int).Lsh(big.NewInt(e.N.Hi), 64)
		n.Add(n, new(big.Int).SetUint64(e.N.Lo))
		entries = append(entries, e.Name+"="+n.String())
	}
	return strings.Join(entries, ",")
}

// sums are all of a space, as a text.
func (m *model) sums(space string) string {
	var l []string
	for i := range m.scopes {
		l = append(l, m.sum(space, i))
	}
	return strings.Join(l, ";")
}

// named are all spaces of which anything ever came, or went, rising.
func (m *model) named() []string {
	var l []string
	for _, p := range m.parts {
		l = append(l, p.o.Key.Space)
	}
	slices.Sort(l)
	return slices.Compact(l)
}

// spaces are those of them that have a sum that is not empty.
func (m *model) spaces() []string {
	return slices.DeleteFunc(m.named(), func(space string) bool { return strings.Trim(m.sums(space), ";") == "" })
}

// apply is what the chapter says of deltas.
func (m *model) apply(d []api.Delta) ([]string, api.Errno) {
	next := &model{m.scopes, slices.Clone(m.parts)}
	for _, x := range d {
		if x.Had {
			next.parts = append(next.parts, part{object.Own(x.Old), true})
		}
		if x.Has {
			next.parts = append(next.parts, part{object.Own(x.New), false})
		}
		for _, p := range next.parts[len(m.parts):] {
			if !object.Right(p.o) {
				return nil, api.ErrArg
			}
		}
		if x.Had && x.Old.Key != x.Key || x.Has && x.New.Key != x.Key {
			return nil, api.ErrArg
		}
	}
	others := slices.DeleteFunc(next.named(), func(space string) bool { return m.sums(space) == next.sums(space) })
	m.parts = next.parts
	return others, api.OK
}

// load is what the chapter says of objects.
func (m *model) load(l []api.Object) api.Errno {
	var parts []part
	for _, o := range l {
		if !object.Right(o) {
			return api.ErrArg
		}
		parts = append(parts, part{object.Own(o), false})
	}
	m.parts = parts
	return api.OK
}

// do applies deltas to both, and holds what they answer against each other.
func do(t *testing.T, l *local.Local, m *model, d []api.Delta) api.Errno {
	t.Helper()
	want, wantErr := m.apply(d)
	got, err := l.Apply(d)
	if err != wantErr || !slices.Equal(got, want) {
		t.Fatalf("%+v: %q %d, not %q %d", d, got, err, want, wantErr)
	}
	return err
}

// beside are spaces that are asked for beside those that have anything.
func beside() []string { return []string{"", "a", "b", "a-b", "root", "A", "a/b", "\xff"} }

// holds tells of all that there is to ask whether it is what the model has.
func holds(t *testing.T, l *local.Local, m *model) {
	t.Helper()
	if got, want := l.Spaces(), m.spaces(); !slices.Equal(got, want) {
		t.Fatalf("spaces %q, not %q", got, want)
	}
	for _, space := range append(beside(), m.named()...) {
		for i := -1; i <= len(m.scopes); i++ {
			if got, want := told(l.Sum(space, i)), m.sum(space, i); got != want {
				t.Fatalf("of %q, %d: %s, not %s", space, i, got, want)
			}
		}
	}
	if got, want := whole(l.Scopes()), whole(m.scopes); got != want {
		t.Fatalf("scopes %s, not %s", got, want)
	}
}

// whole is all that is in something, as one text, but whether a list without elements is nil.
func whole(x any) string { return fmt.Sprintf("%+v", x) }

// look is all that sums tell, as a text, without what any second telling says.
func look(l *local.Local) string {
	var text strings.Builder
	fmt.Fprintf(&text, "%+v %q\n", l.Scopes(), l.Spaces())
	for _, space := range append(beside(), l.Spaces()...) {
		for i := -1; i <= len(l.Scopes()); i++ {
			fmt.Fprintf(&text, "%q %d %s\n", space, i, told(l.Sum(space, i)))
		}
	}
	return text.String()
}
