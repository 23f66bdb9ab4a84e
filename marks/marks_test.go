package marks_test

import (
	"fmt"
	"slices"
	"strings"
	"testing"

	"scutage/api"
	"scutage/marks"
	"scutage/tree"
)

const long24 = "abcdefghijklmnopqrstuvwx"

// grown is a tree behind Creates that must be OK: "a:root b:a" is a below the root, and b below a.
func grown(t *testing.T, nodes string) *tree.Tree {
	t.Helper()
	x := tree.New()
	for _, s := range strings.Fields(nodes) {
		name, parent, _ := strings.Cut(s, ":")
		if err := x.Create(name, parent); err != api.OK {
			t.Fatalf("Create %s: %d", s, err)
		}
	}
	return x
}

// marked are marks of these names alone.
func marked(t *testing.T, names ...string) *marks.Marks {
	t.Helper()
	m := marks.New()
	does(t, m, call{'m', names})
	return m
}

// few are some trees: none, the root alone, and such with nodes that are often marked here.
func few(t *testing.T) []*tree.Tree {
	t.Helper()
	return []*tree.Tree{nil, {}, tree.New(), grown(t, "a:root b:a c:b"), grown(t, "c:root b:root a:root"), grown(t, "x:root c:x a:c b:c")}
}

// does calls what must be OK.
func does(t *testing.T, m *marks.Marks, c call) {
	t.Helper()
	if err := try(m, c); err != api.OK {
		t.Fatalf("%c %q: %d", c.does, c.names, err)
	}
}

// refuses calls what must answer an error, and change nothing.
func refuses(t *testing.T, m *marks.Marks, want api.Errno, c call) {
	t.Helper()
	trees := few(t)
	was := look(m, trees)
	if err := try(m, c); err != want {
		t.Errorf("%c %q: %d, not %d", c.does, c.names, err, want)
	}
	if is := look(m, trees); is != was {
		t.Errorf("%c %q changes\n%s to\n%s", c.does, c.names, was, is)
	}
}

// are tells whether just these names are marked, and told as they rise.
func are(t *testing.T, m *marks.Marks, names ...string) {
	t.Helper()
	if got := m.All(); !slices.Equal(got, names) {
		t.Errorf("%q, not %q", got, names)
	}
	for _, name := range append(beside(), names...) {
		if m.Has(name) != slices.Contains(names, name) {
			t.Errorf("of %q: %q: %v", names, name, m.Has(name))
		}
	}
}

// next tells whether that is the next one of a tree; asked twice, for it changes nothing.
func next(t *testing.T, m *marks.Marks, x *tree.Tree, want string) {
	t.Helper()
	all, nodes := m.All(), x.All()
	for range 2 {
		if got, is := m.Next(x); !is || got != want {
			t.Errorf("of %q in %q: %q %v, not %q", all, nodes, got, is, want)
		}
	}
	if !slices.Equal(m.All(), all) || !slices.Equal(x.All(), nodes) {
		t.Errorf("Next changes %q to %q, or %q to %q", all, m.All(), nodes, x.All())
	}
}

// noNext tells whether there is no next one of a tree.
func noNext(t *testing.T, m *marks.Marks, x *tree.Tree) {
	t.Helper()
	all := m.All()
	for range 2 {
		if got, is := m.Next(x); is || got != "" {
			t.Errorf("of %q in %q: %q %v", all, x.All(), got, is)
		}
	}
	if !slices.Equal(m.All(), all) {
		t.Errorf("Next changes %q to %q", all, m.All())
	}
}

// oddities are texts that are no labels, and so no node's.
func oddities() []string {
	return []string{
		"", "-", "-a", "a-", long24 + "y", strings.Repeat("a", 1000), "A", "Root", "root ", " root", "root/a", "/", "a b", "a\n",
		"\x00", "a\x00", "a_b", "é", "\xff", "a\xff", "\ufffd", "\U0001f600",
	}
}

// P12.1, New: none are marked, and none is the next one.
func TestNew(t *testing.T) {
	m := marks.New()
	if m == nil {
		t.Fatal("nil")
	}
	are(t, m)
	for _, x := range few(t) {
		noNext(t, m, x)
	}
	for _, name := range append(oddities(), "a", "root", "objects") {
		if m.Has(name) {
			t.Errorf("Has %q", name)
		}
		refuses(t, m, api.ErrNone, call{'c', []string{name}})
	}
	does(t, m, call{'m', []string{"a"}})
	are(t, marks.New())
}

// P12.1, Mark: all of the list are, and what was marked stays so; All rises, whatever came first.
func TestMark(t *testing.T) {
	m := marked(t, "b", "x")
	are(t, m, "b", "x")
	does(t, m, call{'m', []string{"root", "a", "c"}})
	are(t, m, "a", "b", "c", "root", "x")
	does(t, m, call{'m', []string{"\xff", "root ", "Root", "-"}})
	are(t, m, "-", "Root", "a", "b", "c", "root", "root ", "x", "\xff")
}

// P12.1, Mark: a list of none marks none.
func TestMarkNone(t *testing.T) {
	m := marks.New()
	for _, none := range [][]string{nil, {}, []string{"a"}[:0]} {
		does(t, m, call{'m', none})
		are(t, m)
		noNext(t, m, tree.New())
	}
	does(t, m, call{'m', []string{"b", "a"}})
	for _, none := range [][]string{nil, {}, []string{"c"}[:0]} {
		does(t, m, call{'m', none})
		are(t, m, "a", "b")
	}
}

// P12.1, Mark: the same name twice in one list, and once more, is one mark: one Clear, and it is none.
func TestMarkTwice(t *testing.T) {
	m := marked(t, "b", "a", "b", "a", "a")
	are(t, m, "a", "b")
	does(t, m, call{'m', []string{"a"}})
	does(t, m, call{'m', []string{"a", "c", "a"}})
	are(t, m, "a", "b", "c")
	does(t, m, call{'c', []string{"a"}})
	are(t, m, "b", "c")
	refuses(t, m, api.ErrNone, call{'c', []string{"a"}})
	does(t, m, call{'c', []string{"b"}})
	are(t, m, "c")
}

// P12.1: a name of no bytes is one as any other, but no node.
func TestNameOfNoBytes(t *testing.T) {
	m := marked(t, "")
	are(t, m, "")
	for _, x := range few(t) {
		noNext(t, m, x)
	}
	does(t, m, call{'m', []string{"root", "", "a"}})
	are(t, m, "", "a", "root")
	next(t, m, tree.New(), "root")
	next(t, m, grown(t, "a:root"), "a")
	does(t, m, call{'c', []string{""}})
	are(t, m, "a", "root")
	refuses(t, m, api.ErrNone, call{'c', []string{""}})
}

// P12.1: any text may be marked, be it a label or not, and be there more of them than there may be nodes.
func TestMarkAnyTexts(t *testing.T) {
	texts := append(oddities(), "a", "root", long24, strings.Repeat("z", 1<<16))
	m := marked(t, texts...)
	for _, text := range texts {
		if !m.Has(text) {
			t.Errorf("%q is not marked", text)
		}
	}
	slices.Sort(texts)
	if got := m.All(); !slices.Equal(got, texts) {
		t.Errorf("%q, not %q", got, texts)
	}
	next(t, m, tree.New(), "root")
	next(t, m, grown(t, "a:root "+long24+":a"), long24)
	var many []string
	for i := range 5000 {
		many = append(many, fmt.Sprintf("n%d", i*7919%5000))
	}
	does(t, m, call{'m', many})
	if n := len(m.All()); n != len(texts)+5000 || !slices.IsSorted(m.All()) {
		t.Errorf("%d are marked", n)
	}
	for _, text := range append(texts, many...) {
		does(t, m, call{'c', []string{text}})
	}
	are(t, m)
}

// P12.1, Clear: one is not any more, the others are; what is not marked, was never, or is not any more, is ErrNone, whether it is a node or not.
func TestClear(t *testing.T) {
	m := marked(t, "c", "a", "b", "root")
	for _, name := range append(oddities(), "x", "roo", "roots", "aa", "objects") {
		refuses(t, m, api.ErrNone, call{'c', []string{name}})
	}
	does(t, m, call{'c', []string{"b"}})
	are(t, m, "a", "c", "root")
	refuses(t, m, api.ErrNone, call{'c', []string{"b"}})
	refuses(t, m, api.ErrNone, call{'c', []string{"b"}})
	does(t, m, call{'m', []string{"b"}})
	are(t, m, "a", "b", "c", "root")
	for _, name := range []string{"root", "c", "a", "b"} {
		does(t, m, call{'c', []string{name}})
		refuses(t, m, api.ErrNone, call{'c', []string{name}})
	}
	are(t, m)
	does(t, m, call{'m', []string{"a"}})
	are(t, m, "a")
}

// P12.1, Next: the greatest depth of those that are marked, not of all nodes, and whatever the names are.
func TestNext(t *testing.T) {
	x := grown(t, "z:root y:z x:y a:root b:a")
	for _, c := range []struct{ marks, want string }{
		{"root", "root"},
		{"a", "a"},
		{"z", "z"},
		{"x", "x"},
		{"a root", "a"},
		{"root z", "z"},
		{"b z", "b"},
		{"a y", "y"},
		{"a b root x y z", "x"},
		{"a b root y z", "b"},
		{"a root y z", "y"},
		{"a root z", "a"},
		{"root x", "x"},
	} {
		next(t, marked(t, strings.Fields(c.marks)...), x, c.want)
	}
}

// P12.1, Next: of those that have the greatest depth the least, byte by byte, whichever came first.
func TestNextOfSome(t *testing.T) {
	x := grown(t, "b:root a:root b-1:b b0:a bb:b ba:a 9:b 10:b")
	m := marked(t, "root", "ba", "bb", "b", "9", "b-1", "a", "b0", "10")
	for _, want := range []string{"10", "9", "b-1", "b0", "ba", "bb", "a", "b", "root"} {
		next(t, m, x, want)
		does(t, m, call{'c', []string{want}})
	}
	noNext(t, m, x)
	are(t, m)
	for _, l := range [][]string{{"bb", "ba"}, {"ba", "bb"}, {"bb", "b", "ba", "a"}} {
		next(t, marked(t, l...), x, "ba")
	}
}

// P12.1, Next: what is marked, but no node, does not count, be it less than all, or none of them one.
func TestNextOfNoNodes(t *testing.T) {
	x := grown(t, "b:root c:b")
	m := marked(t, "a", "x", "", "d", "ROOT", "c-", "zz", "-")
	for _, none := range append(few(t)[:3], x) {
		noNext(t, m, none)
	}
	does(t, m, call{'m', []string{"b"}})
	next(t, m, x, "b")
	noNext(t, m, tree.New())
	does(t, m, call{'m', []string{"root", "c", "0"}})
	next(t, m, x, "c")
	next(t, m, tree.New(), "root")
	for _, name := range []string{"c", "b", "root"} {
		next(t, m, x, name)
		does(t, m, call{'c', []string{name}})
	}
	noNext(t, m, x)
	are(t, m, "", "-", "0", "ROOT", "a", "c-", "d", "x", "zz")
}

// P12.1, Next: of no tree there is none; of a zero one the root.
func TestNextOfNoTree(t *testing.T) {
	for _, m := range []*marks.Marks{nil, {}, marks.New(), marked(t, "root"), marked(t, "root", "a", "")} {
		noNext(t, m, nil)
	}
	next(t, marked(t, "a", "root"), &tree.Tree{}, "root")
	noNext(t, marked(t, "a"), &tree.Tree{})
}

// P12.1, Next: it is told of the tree as it is when it is asked: a node may move, go, and come back, while it is marked.
func TestNextOfATreeThatChanges(t *testing.T) {
	x := grown(t, "a:root b:root c:b")
	m := marked(t, "a", "b", "d")
	next(t, m, x, "a")
	x.Move("b", "a")
	next(t, m, x, "b")
	x.Move("a", "root")
	x.Move("b", "root")
	x.Move("a", "c")
	next(t, m, x, "a")
	x.Create("d", "c")
	next(t, m, x, "a")
	x.Remove("a")
	next(t, m, x, "d")
	x.Remove("d")
	next(t, m, x, "b")
	x.Remove("c")
	x.Remove("b")
	noNext(t, m, x)
	are(t, m, "a", "b", "d")
	x.Create("d", "root")
	next(t, m, x, "d")
	x.Create("a", "root")
	next(t, m, x, "a")
}

// P12.1, Next: up to the depth of 8.
func TestNextOfADeepTree(t *testing.T) {
	const letters = "gfedcba"
	x, parent := tree.New(), "root"
	m := marked(t, "root")
	next(t, m, x, "root")
	for _, letter := range strings.Split(letters, "") {
		x.Create(letter, parent)
		next(t, m, x, parent)
		does(t, m, call{'m', []string{letter}})
		next(t, m, x, letter)
		parent = letter
	}
	for _, letter := range strings.Split("abcdefg", "") {
		next(t, m, x, letter)
		does(t, m, call{'c', []string{letter}})
	}
	next(t, m, x, "root")
	does(t, m, call{'m', []string{"d"}})
	next(t, m, x, "d")
}

// P12.2: of marked paths each node comes ahead of those above it, and what is no node stays.
func TestDeepestFirst(t *testing.T) {
	x := grown(t, "a:root b:a c:b d:b e:root f:e g:root")
	m := marks.New()
	for _, name := range []string{"d", "f", "c"} {
		does(t, m, call{'m', x.Path(name)})
	}
	does(t, m, call{'m', []string{"0", "", "x"}})
	if got, want := strings.Join(deepestFirst(t, m, x), " "), "c d b f a e root"; got != want {
		t.Errorf("%s, not %s", got, want)
	}
	are(t, m, "", "0", "x")
	does(t, m, call{'m', x.All()})
	if got, want := strings.Join(deepestFirst(t, m, x), " "), "c d b f a e g root"; got != want {
		t.Errorf("%s, not %s", got, want)
	}
}

// P12.2: paths that are marked between keep it so.
func TestDeepestFirstWithMoreBetween(t *testing.T) {
	x := grown(t, "a:root b:a c:root d:c")
	m := marked(t, x.Path("b")...)
	for _, step := range []struct {
		want string   // what is the next one, and cleared
		more []string // what is marked then
	}{
		{"b", x.Path("d")},
		{"d", nil},
		{"a", append(x.Path("b"), "x")},
		{"b", nil},
		{"a", x.Path("root")},
		{"c", nil},
		{"root", nil},
	} {
		next(t, m, x, step.want)
		does(t, m, call{'c', []string{step.want}})
		if !wholePaths(m, x) {
			t.Fatalf("%q", m.All())
		}
		does(t, m, call{'m', step.more})
	}
	are(t, m, "x")
}

// Rule 4: the list that is handed in is neither written into nor kept; what lies behind its length is neither marked nor written.
func TestHandedIn(t *testing.T) {
	whole := []string{"b", "root", "b", "a", "c", "x"}
	m := marks.New()
	does(t, m, call{'m', whole[:4]})
	if want := []string{"b", "root", "b", "a", "c", "x"}; !slices.Equal(whole, want) {
		t.Errorf("%q, not %q", whole, want)
	}
	are(t, m, "a", "b", "root")
	for i := range whole {
		whole[i] = "c"
	}
	are(t, m, "a", "b", "root")
	next(t, m, grown(t, "c:root b:c"), "b")
	bytes := []byte("a name that is written into")
	name := string(bytes)
	does(t, m, call{'m', []string{name}})
	clear(bytes)
	are(t, m, "a", "a name that is written into", "b", "root")
}

// Rule 4: what is handed back is the caller's: no marks, and no other list, have it, even behind its length.
func TestHandedBack(t *testing.T) {
	m := marked(t, "c", "a", "b", "root", "x")
	l, other := m.All(), m.All()
	l = l[:cap(l)]
	for i := range l {
		l[i] = "y"
	}
	if !slices.Equal(other, []string{"a", "b", "c", "root", "x"}) {
		t.Errorf("%q is written into with another one", other)
	}
	are(t, m, "a", "b", "c", "root", "x")
	does(t, m, call{'c', []string{"b"}})
	does(t, m, call{'m', []string{"0", "d", "aa"}})
	if !slices.Equal(other, []string{"a", "b", "c", "root", "x"}) {
		t.Errorf("it becomes %q", other)
	}
	are(t, m, "0", "a", "aa", "c", "d", "root", "x")
}

// Rule 4: what marks tell may be handed in again, to them, and to others.
func TestHandedBackAndIn(t *testing.T) {
	m := marked(t, "b", "a")
	l := m.All()
	does(t, m, call{'m', l})
	are(t, m, "a", "b")
	other := marked(t, l...)
	l[0] = "c"
	does(t, m, call{'m', l})
	are(t, m, "a", "b", "c")
	are(t, other, "a", "b")
}

// P2: what one is called changes no other one, and no tree.
func TestMarksOfTheirOwn(t *testing.T) {
	x := grown(t, "a:root b:a")
	m, n := marked(t, "a", "b"), marked(t, "b", "c")
	does(t, m, call{'c', []string{"b"}})
	are(t, n, "b", "c")
	next(t, n, x, "b")
	does(t, n, call{'m', []string{"root"}})
	are(t, m, "a")
	next(t, m, x, "a")
	refuses(t, m, api.ErrNone, call{'c', []string{"root"}})
}

// Rule 8: nil marks have nothing, and take nothing.
func TestNil(t *testing.T) {
	var m *marks.Marks
	for _, name := range append(oddities(), "a", "root") {
		refuses(t, m, api.ErrArg, call{'c', []string{name}})
		refuses(t, m, api.ErrArg, call{'m', []string{name}})
		if m.Has(name) {
			t.Errorf("Has %q", name)
		}
	}
	refuses(t, m, api.ErrArg, call{'m', nil})
	refuses(t, m, api.ErrArg, call{'m', []string{"root", "a", "root"}})
	are(t, m)
	for _, x := range few(t) {
		noNext(t, m, x)
	}
}

// P1: zero Marks are as new ones, too.
func TestZero(t *testing.T) {
	trees := few(t)
	if got, want := look(&marks.Marks{}, trees), look(marks.New(), trees); got != want {
		t.Errorf("%s, not %s", got, want)
	}
	var m, n marks.Marks
	refuses(t, &m, api.ErrNone, call{'c', []string{"a"}})
	does(t, &m, call{'m', nil})
	are(t, &m)
	does(t, &n, call{'m', []string{"root", "a"}})
	are(t, &n, "a", "root")
	next(t, &n, tree.New(), "root")
}
