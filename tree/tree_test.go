package tree_test

import (
	"fmt"
	"slices"
	"strings"
	"testing"

	"scutage/api"
	"scutage/tree"
)

const long24 = "abcdefghijklmnopqrstuvwx"

// grown is a tree behind Creates that must be OK: "a:root b:a" is a below the root, and b below a.
func grown(t *testing.T, nodes string) *tree.Tree {
	t.Helper()
	x := tree.New()
	for _, s := range strings.Fields(nodes) {
		name, parent, _ := strings.Cut(s, ":")
		does(t, x, call{'c', name, parent})
	}
	return x
}

// chain is a tree of the root, and these letters, each below the one ahead of it.
func chain(t *testing.T, letters string) *tree.Tree {
	t.Helper()
	x := tree.New()
	parent := "root"
	for _, letter := range letters {
		does(t, x, call{'c', string(letter), parent})
		parent = string(letter)
	}
	return x
}

// full is a tree of 200 nodes: the root, a chain of 7 (a to g) that reaches the depth of 8, and 192 below the root.
func full(t *testing.T) *tree.Tree {
	t.Helper()
	x := chain(t, "abcdefg")
	for i := range 192 {
		does(t, x, call{'c', fmt.Sprintf("n%d", i), "root"})
	}
	if n := len(x.All()); n != 200 {
		t.Fatalf("%d nodes", n)
	}
	return x
}

// does calls what must be OK.
func does(t *testing.T, x *tree.Tree, c call) {
	t.Helper()
	if err := try(x, c); err != api.OK {
		t.Fatalf("%c %q %q: %d", c.does, c.name, c.parent, err)
	}
}

// refuses calls what must answer an error, and change nothing.
func refuses(t *testing.T, x *tree.Tree, want api.Errno, c call) {
	t.Helper()
	was := look(x)
	if err := try(x, c); err != want {
		t.Errorf("%c %q %q: %d, not %d", c.does, c.name, c.parent, err, want)
	}
	if is := look(x); is != was {
		t.Errorf("%c %q %q changes\n%s to\n%s", c.does, c.name, c.parent, was, is)
	}
}

// is tells whether a list is that of the words of a text.
func is(t *testing.T, got []string, want string) {
	t.Helper()
	if !slices.Equal(got, strings.Fields(want)) {
		t.Errorf("%q, not %s", got, want)
	}
}

// oddities are texts that are no labels, each for a reason of its own.
func oddities() []string {
	return []string{
		"", "-", "--", "-a", "a-", long24 + "y", long24[:23] + "-", "-" + long24[:23], strings.Repeat("a", 1000),
		"A", "Root", "ROOT", "root ", " root", "root/a", "/", "a/b", "a b", "a\n", "a\x00", "a_b", "a.b", "a,b", "é", "aéb", "\xff", "a\xff", "\ufffd", "\U0001f600",
	}
}

// P11.1, New: the root alone, which has no parent, and nothing below it but itself.
func TestNew(t *testing.T) {
	x := tree.New()
	if x == nil {
		t.Fatal("nil")
	}
	is(t, x.All(), "root")
	is(t, x.Path("root"), "root")
	is(t, x.Below("root"), "root")
	is(t, x.Children("root"), "")
	if !x.Has("root") || x.Parent("root") != "" {
		t.Error("the root is there, and has no parent")
	}
	for _, name := range append(oddities(), "a", "objects") {
		isNone(t, x, name)
	}
	refuses(t, x, api.ErrArg, call{'r', "root", ""})
	refuses(t, x, api.ErrArg, call{'m', "root", "root"})
	refuses(t, x, api.ErrIs, call{'c', "root", "root"})
	does(t, x, call{'c', "a", "root"})
	is(t, tree.New().All(), "root")
}

// isNone tells whether a name is none's.
func isNone(t *testing.T, x *tree.Tree, name string) {
	t.Helper()
	if x.Has(name) || x.Parent(name) != "" || len(x.Path(name))+len(x.Children(name))+len(x.Below(name)) != 0 {
		t.Errorf("%q is no node: %v %q %q %q %q", name, x.Has(name), x.Parent(name), x.Path(name), x.Children(name), x.Below(name))
	}
	if slices.Contains(x.All(), name) {
		t.Errorf("%q is among all", name)
	}
}

// P11.1, Create: a node more, with that parent; each label may be one.
func TestCreate(t *testing.T) {
	x := grown(t, "b:root a:root d:b c:b e:c")
	is(t, x.All(), "a b c d e root")
	is(t, x.Children("root"), "a b")
	is(t, x.Children("b"), "c d")
	is(t, x.Children("e"), "")
	is(t, x.Path("e"), "e c b root")
	is(t, x.Path("a"), "a root")
	is(t, x.Below("b"), "b c d e")
	is(t, x.Below("root"), "a b c d e root")
	for name, parent := range map[string]string{"a": "root", "b": "root", "c": "b", "d": "b", "e": "c", "root": "", "x": ""} {
		if got := x.Parent(name); got != parent {
			t.Errorf("%s: %q", name, got)
		}
		if x.Has(name) == (name == "x") {
			t.Errorf("Has %s", name)
		}
	}
	for _, name := range []string{"0", "9", "z", "a-b", "a--b", "objects", "root-1", "roo", "roots", long24, strings.Repeat("9", 24)} {
		does(t, x, call{'c', name, "e"})
		is(t, x.Path(name), name+" e c b root")
		refuses(t, x, api.ErrIs, call{'c', name, "e"})
	}
}

// P11.1, Create: each of its errors alone.
func TestCreateWrong(t *testing.T) {
	x := grown(t, "a:root b:a c:b")
	for _, name := range oddities() {
		refuses(t, x, api.ErrArg, call{'c', name, "root"})
		refuses(t, x, api.ErrArg, call{'c', name, "c"})
		refuses(t, x, api.ErrNone, call{'c', "d", name})
		isNone(t, x, name)
	}
	for _, name := range []string{"root", "a", "b", "c"} {
		for _, parent := range []string{"root", "a", "b", "c"} {
			refuses(t, x, api.ErrIs, call{'c', name, parent})
		}
	}
	for _, parent := range []string{"d", "x", "objects", long24} {
		refuses(t, x, api.ErrNone, call{'c', "d", parent})
	}
	isNone(t, x, "d")
	does(t, x, call{'c', "d", "c"})
}

// P11.1, Create: a depth of 8 may be, one of 9 may not.
func TestCreateDeep(t *testing.T) {
	x := chain(t, "abcdefg")
	is(t, x.Path("g"), "g f e d c b a root")
	refuses(t, x, api.ErrDeep, call{'c', "h", "g"})
	for _, c := range []call{{'c', "h", "f"}, {'c', "i", "f"}, {'c', "j", "root"}, {'c', "k", "j"}} {
		does(t, x, c)
	}
	refuses(t, x, api.ErrDeep, call{'c', "l", "h"})
	refuses(t, x, api.ErrDeep, call{'c', "l", "i"})
	is(t, x.Below("f"), "f g h i")
	does(t, x, call{'r', "g", ""})
	refuses(t, x, api.ErrNone, call{'c', "l", "g"})
	does(t, x, call{'c', "l", "f"})
	refuses(t, x, api.ErrDeep, call{'c', "m", "l"})
}

// P11.1, Create: there are 200 nodes at most, the root among them; what goes makes room for one, what moves does not.
func TestCreateFull(t *testing.T) {
	x := tree.New()
	for i := range 198 {
		does(t, x, call{'c', fmt.Sprintf("n%d", i), "root"})
	}
	does(t, x, call{'c', "last", "n7"})
	if n := len(x.All()); n != 200 {
		t.Fatalf("%d nodes", n)
	}
	for _, parent := range []string{"root", "n0", "last"} {
		refuses(t, x, api.ErrFull, call{'c', "more", parent})
	}
	does(t, x, call{'m', "last", "n8"})
	refuses(t, x, api.ErrFull, call{'c', "more", "root"})
	refuses(t, x, api.ErrLeaf, call{'r', "n8", ""})
	refuses(t, x, api.ErrFull, call{'c', "more", "root"})
	does(t, x, call{'r', "n3", ""})
	does(t, x, call{'c', "more", "last"})
	refuses(t, x, api.ErrFull, call{'c', "n3", "root"})
	is(t, x.Below("n8"), "last more n8")
	upToTheRoot(t, x)
	noneIsLost(t, x)
	for _, name := range x.Children("root") {
		try(x, call{'r', name, ""})
	}
	is(t, x.All(), "last more n8 root")
}

// P11.1, Create: which error comes first.
func TestCreateErrorsInOrder(t *testing.T) {
	x := full(t)
	for _, c := range []struct {
		name, parent string
		want         api.Errno
	}{
		{"-h", "x", api.ErrArg},
		{"-h", "g", api.ErrArg},
		{"-h", "a", api.ErrArg},
		{"", "", api.ErrArg},
		{"a", "x", api.ErrIs},
		{"a", "", api.ErrIs},
		{"a", "g", api.ErrIs},
		{"g", "g", api.ErrIs},
		{"root", "x", api.ErrIs},
		{"root", "g", api.ErrIs},
		{"root", "root", api.ErrIs},
		{"h", "x", api.ErrNone},
		{"h", "h", api.ErrNone},
		{"h", "-h", api.ErrNone},
		{"h", "", api.ErrNone},
		{"h", "g", api.ErrDeep},
		{"h", "f", api.ErrFull},
		{"h", "root", api.ErrFull},
	} {
		refuses(t, x, c.want, call{'c', c.name, c.parent})
	}
	does(t, x, call{'r', "n0", ""})
	for _, c := range []struct {
		name, parent string
		want         api.Errno
	}{{"-h", "x", api.ErrArg}, {"-h", "g", api.ErrArg}, {"a", "x", api.ErrIs}, {"a", "g", api.ErrIs}, {"h", "x", api.ErrNone}, {"h", "g", api.ErrDeep}, {"n0", "n0", api.ErrNone}} {
		refuses(t, x, c.want, call{'c', c.name, c.parent})
	}
	does(t, x, call{'c', "h", "f"})
}

// P11.1, Remove: a leaf goes; the root, a parent, and what is none, do not. The root stays, even where it is a parent (ErrArg, ahead of ErrLeaf).
func TestRemove(t *testing.T) {
	x := grown(t, "a:root b:a c:b d:a")
	for _, name := range append(oddities(), "x", "roo") {
		refuses(t, x, api.ErrNone, call{'r', name, ""})
	}
	refuses(t, x, api.ErrArg, call{'r', "root", ""})
	refuses(t, x, api.ErrLeaf, call{'r', "a", ""})
	refuses(t, x, api.ErrLeaf, call{'r', "b", ""})
	does(t, x, call{'r', "c", ""})
	isNone(t, x, "c")
	refuses(t, x, api.ErrNone, call{'r', "c", ""})
	refuses(t, x, api.ErrNone, call{'c', "e", "c"})
	does(t, x, call{'r', "b", ""})
	refuses(t, x, api.ErrLeaf, call{'r', "a", ""})
	is(t, x.Children("a"), "d")
	does(t, x, call{'r', "d", ""})
	does(t, x, call{'r', "a", ""})
	is(t, x.All(), "root")
	refuses(t, x, api.ErrArg, call{'r', "root", ""})
	does(t, x, call{'c', "c", "root"})
	is(t, x.Path("c"), "c root")
}

// P11.1, Move: a node has that parent, and all below it goes with it; the parent that it has is one, too.
func TestMove(t *testing.T) {
	x := grown(t, "a:root b:a c:b d:b e:root")
	does(t, x, call{'m', "b", "e"})
	is(t, x.Path("c"), "c b e root")
	is(t, x.Path("d"), "d b e root")
	is(t, x.Children("a"), "")
	is(t, x.Children("e"), "b")
	is(t, x.Below("e"), "b c d e")
	is(t, x.Below("a"), "a")
	is(t, x.All(), "a b c d e root")
	was := look(x)
	for name, parent := range map[string]string{"a": "root", "b": "e", "c": "b", "d": "b", "e": "root"} {
		does(t, x, call{'m', name, parent})
		if is := look(x); is != was {
			t.Errorf("%s to %s, where it is, changes\n%s to\n%s", name, parent, was, is)
		}
	}
	does(t, x, call{'m', "d", "root"})
	is(t, x.Children("root"), "a d e")
	does(t, x, call{'m', "e", "d"})
	is(t, x.Path("c"), "c b e d root")
	does(t, x, call{'m', "a", "c"})
	is(t, x.Path("a"), "a c b e d root")
	is(t, x.Children("root"), "d")
}

// P11.1, Move: each of its errors, and which comes first.
func TestMoveWrong(t *testing.T) {
	x := chain(t, "abcdefg")
	does(t, x, call{'c', "y", "root"})
	for _, name := range append(oddities(), "x") {
		for _, node := range []string{"root", "a", "g", "y"} {
			refuses(t, x, api.ErrNone, call{'m', name, node})
			refuses(t, x, api.ErrNone, call{'m', node, name})
		}
		refuses(t, x, api.ErrNone, call{'m', name, name})
		refuses(t, x, api.ErrNone, call{'m', name, "z"})
	}
	for _, parent := range []string{"root", "a", "g", "y"} {
		refuses(t, x, api.ErrArg, call{'m', "root", parent})
	}
	for i, name := range strings.Split("abcdefg", "") {
		for _, parent := range strings.Split("abcdefg"[i:], "") {
			refuses(t, x, api.ErrCycle, call{'m', name, parent})
		}
	}
	refuses(t, x, api.ErrCycle, call{'m', "y", "y"})
	refuses(t, x, api.ErrDeep, call{'m', "y", "g"})
	does(t, x, call{'m', "y", "f"})
}

// P11.1, Move: the depth of the node counts, and of each below it, the deepest of all, whichever comes first.
func TestMoveDeep(t *testing.T) {
	const nodes = "a:root b:a c:b d:c e:d f:e g:f "
	for _, c := range []struct {
		below string // what is below y, beside it
		most  string // the deepest one that takes it
	}{
		{"", "f"},
		{"z:y", "e"},
		{"v:y w:y z:y", "e"},
		{"z:y v:z w:y x:y", "d"},
		{"w:y v:w z:y x:y", "d"},
		{"v:y w:y x:w z:x", "c"},
		{"v:y w:v x:w z:x", "b"},
		{"v:y w:v x:w z:x u:z", "a"},
		{"v:y w:v x:w z:x u:z t:u", "root"},
	} {
		takes := true
		for i, parent := range []string{"root", "a", "b", "c", "d", "e", "f", "g"} {
			x := grown(t, nodes+"y:root "+c.below)
			if takes {
				does(t, x, call{'m', "y", parent})
				if n := len(x.Path("y")); n != i+2 {
					t.Errorf("%s: a depth of %d", parent, n)
				}
			} else {
				refuses(t, x, api.ErrDeep, call{'m', "y", parent})
			}
			upToTheRoot(t, x)
			takes = takes && parent != c.most
		}
	}
}

// P11.1: nodes that are deep where they are may move up, or aside, with all that is below them.
func TestMoveUp(t *testing.T) {
	x := grown(t, "a:root b:a c:b d:c e:d f:e g:f h:f i:d y:root")
	does(t, x, call{'m', "e", "root"})
	is(t, x.Path("g"), "g f e root")
	refuses(t, x, api.ErrDeep, call{'m', "a", "g"})
	refuses(t, x, api.ErrDeep, call{'m', "a", "h"})
	does(t, x, call{'m', "a", "f"})
	is(t, x.Path("i"), "i d c b a f e root")
	does(t, x, call{'m', "c", "y"})
	does(t, x, call{'m', "y", "a"})
	is(t, x.Path("i"), "i d c y a f e root")
	is(t, x.Below("a"), "a b c d i y")
	is(t, x.Below("f"), "a b c d f g h i y")
}

// P11.1, Children, All, Below: they rise byte by byte, whatever came first.
func TestRising(t *testing.T) {
	x := tree.New()
	for _, name := range []string{"z", "aa", "root-1", "a", "a-b", "9", "10", "a0", "roo", "roots", "1"} {
		does(t, x, call{'c', name, "root"})
	}
	is(t, x.Children("root"), "1 10 9 a a-b a0 aa roo root-1 roots z")
	is(t, x.All(), "1 10 9 a a-b a0 aa roo root root-1 roots z")
	is(t, x.Below("root"), "1 10 9 a a-b a0 aa roo root root-1 roots z")
	for _, name := range []string{"z", "aa", "root-1", "9", "a0"} {
		does(t, x, call{'m', name, "a"})
	}
	is(t, x.Children("a"), "9 a0 aa root-1 z")
	is(t, x.Below("a"), "9 a a0 aa root-1 z")
}

// P11.1: of a leaf, of a name that is none, of one of no bytes.
func TestAsked(t *testing.T) {
	x := grown(t, "a:root b:a c:root")
	for _, leaf := range []string{"b", "c"} {
		is(t, x.Children(leaf), "")
		is(t, x.Below(leaf), leaf)
	}
	for _, name := range append(oddities(), "d", "x", "objects") {
		isNone(t, x, name)
	}
}

// asked are all lists that a tree hands out.
func asked(x *tree.Tree) [][]string {
	l := [][]string{x.All()}
	for _, name := range x.All() {
		l = append(l, x.Path(name), x.Children(name), x.Below(name))
	}
	return l
}

// Rule 4: what was handed back is the caller's: no other list, and no tree, has it, even behind its length.
func TestHandedBack(t *testing.T) {
	x := grown(t, "a:root b:a c:b d:a e:root f:e")
	was := look(x)
	for i := range asked(x) {
		l, want := asked(x), asked(x)
		taken := l[i][:cap(l[i])]
		for j := range taken {
			taken[j] = "x"
		}
		for j := range l {
			if j != i && !slices.Equal(l[j], want[j]) {
				t.Errorf("%q is written into, with another one: %q", want[j], l[j])
			}
		}
		if is := look(x); is != was {
			t.Fatalf("%s becomes\n%s", was, is)
		}
	}
	does(t, x, call{'m', "b", "f"})
	is(t, x.Path("c"), "c b f e root")
}

// Rule 4: a list that was handed back stays as it is, whatever the tree becomes.
func TestHandedBackStays(t *testing.T) {
	x := grown(t, "a:root b:a c:b d:a")
	l, want := asked(x), asked(x)
	for _, c := range []call{{'c', "aa", "root"}, {'m', "b", "aa"}, {'r', "c", ""}, {'r', "d", ""}, {'r', "a", ""}, {'c', "c", "b"}} {
		does(t, x, c)
		for i := range l {
			if !slices.Equal(l[i], want[i]) {
				t.Fatalf("%q becomes %q", want[i], l[i])
			}
		}
	}
}

// P2: what one tree is called changes no other one.
func TestTreesOfTheirOwn(t *testing.T) {
	x, y := grown(t, "a:root b:a"), grown(t, "a:root b:root")
	does(t, x, call{'m', "b", "root"})
	does(t, x, call{'c', "c", "b"})
	is(t, y.All(), "a b root")
	does(t, y, call{'r', "b", ""})
	is(t, x.Path("c"), "c b root")
}

// Rule 8: a nil tree has nothing, and takes nothing.
func TestNil(t *testing.T) {
	var x *tree.Tree
	for _, name := range append(oddities(), "a", "root") {
		for _, parent := range []string{"", "a", "root", "-", name} {
			for _, letter := range "crm" {
				refuses(t, x, api.ErrArg, call{byte(letter), name, parent})
			}
		}
		isNone(t, x, name)
	}
	if len(x.All()) != 0 {
		t.Errorf("%q", x.All())
	}
}

// P1: a zero Tree is as a new one, too.
func TestZero(t *testing.T) {
	if got, want := look(&tree.Tree{}), look(tree.New()); got != want {
		t.Errorf("%s, not %s", got, want)
	}
	var x, y, z tree.Tree
	refuses(t, &x, api.ErrArg, call{'m', "root", "root"})
	refuses(t, &y, api.ErrNone, call{'r', "a", ""})
	does(t, &z, call{'c', "a", "root"})
	is(t, z.Path("a"), "a root")
}
