package ledger_test

import (
	"math"
	"slices"
	"strconv"
	"strings"
	"testing"

	"scutage/api"
	"scutage/ledger"
	"scutage/scope"
	"scutage/vector"
)

const (
	long24 = "abcdefghijklmnopqrstuvwx"
	most   = "cpu=9223372036854775807"
	above  = "cpu=9223372036854775808"
)

// pod is an object of a space, with a class, if there is one, `!` behind it where it is terminating, and `*` where it is best.
func pod(space, name, class, charge string) api.Object {
	l, e := vector.Parse(charge)
	if e != api.OK {
		panic(charge)
	}
	o := api.Object{Key: api.Key{Space: space, Kind: "pod", Name: name}, Version: 1, Charge: l}
	o.Terminating, o.Best = strings.Contains(class, "!"), strings.Contains(class, "*")
	o.Class = strings.Trim(class, "!*")
	return o
}

// with is an object, changed, with a list of its own.
func with(o api.Object, change func(o *api.Object)) api.Object {
	o.Charge = slices.Clone(o.Charge)
	change(&o)
	return o
}

func come(o api.Object) api.Delta { return api.Delta{Key: o.Key, Has: true, New: o} }

func goes(o api.Object) api.Delta { return api.Delta{Key: o.Key, Had: true, Old: o} }

func turns(old, now api.Object) api.Delta {
	return api.Delta{Key: now.Key, Had: true, Old: old, Has: true, New: now}
}

// scopesOf are those of these texts.
func scopesOf(t *testing.T, texts ...string) []api.Scope {
	t.Helper()
	var l []api.Scope
	for _, text := range texts {
		s, e := scope.Parse(text)
		if e != api.OK {
			t.Fatalf("%s: %d", text, e)
		}
		l = append(l, s)
	}
	return l
}

// both are a ledger, and the model of it.
type both struct {
	*testing.T
	l *ledger.Ledger
	m *model
}

// fresh are both, of scopes of these texts.
func fresh(t *testing.T, texts ...string) both {
	t.Helper()
	l, e := ledger.New(scopesOf(t, texts...))
	if l == nil || e != api.OK {
		t.Fatalf("New: %d", e)
	}
	return both{t, l, modelOf(scopesOf(t, texts...))}
}

// planted are both, with nodes, each as it, `/`, and its parent, and with nothing dirty.
func planted(t *testing.T, scopes, nodes string) both {
	t.Helper()
	b := fresh(t, strings.Fields(scopes)...)
	for _, node := range strings.Fields(nodes) {
		name, parent, _ := strings.Cut(node, "/")
		if e := b.l.Create(name, parent); e != api.OK {
			t.Fatalf("%s: %d", node, e)
		}
		b.m.create(name, parent)
	}
	b.does(steps(api.MaxNodes))
	return b
}

// does does acts, one by one, and holds all that there is to ask against the model behind each.
func (b both) does(acts ...act) {
	b.Helper()
	for _, a := range acts {
		do(b.T, b.l, b.m, a)
		holds(b.T, b.l, b.m)
	}
}

// refused does acts, each of which answers an error, and changes nothing.
func (b both) refused(want api.Errno, acts ...act) {
	b.Helper()
	for _, a := range acts {
		was := look(b.l, "z")
		if got := a.to(b.l); got != whole(want) && got != answered(0, want) && got != answered([]string{}, want) {
			b.Errorf("%s: %s, not %d", a.name, got, want)
		}
		if is := look(b.l, "z"); is != was {
			b.Errorf("%s is refused, and changes\n%s to\n%s", a.name, was, is)
		}
		holds(b.T, b.l, b.m)
	}
}

// dirty tells whether just these are.
func (b both) dirty(want string) {
	b.Helper()
	if got := strings.Join(b.l.Dirty(), " "); got != want {
		b.Errorf("dirty %q, not %q", got, want)
	}
}

// over tells whether just these nodes are, with a number.
func (b both) over(i int, want string) {
	b.Helper()
	nodes := slices.DeleteFunc(b.l.Tree().All(), func(node string) bool { return !b.l.Over(node, i) })
	if got := strings.Join(nodes, " "); got != want {
		b.Errorf("over with %d: %q, not %q", i, got, want)
	}
}

// has tells of a space, with a number, whether its own sum, its kept one, and its true one are these.
func (b both) has(space string, i int, own, kept, sum string) {
	b.Helper()
	if o, k, s := told(b.l.Own(space, i)), told(b.l.Kept(space, i)), told(b.l.True(space, i)); o != own || k != kept || s != sum {
		b.Errorf("%q, %d: own %q, kept %q, true %q, not %q, %q, %q", space, i, o, k, s, own, kept, sum)
	}
}

// stepped does steps, and tells whether just these nodes are worked on.
func (b both) stepped(budget int, want string) {
	b.Helper()
	b.m.step(budget)
	if got, e := b.l.Step(budget); strings.Join(got, " ") != want || e != api.OK {
		b.Errorf("Step %d: %q %d, not %q", budget, got, e, want)
	}
	holds(b.T, b.l, b.m)
}

// recounted counts anew, and tells whether that has drifted so much, and nothing is dirty.
func (b both) recounted(want int, objects ...api.Object) {
	b.Helper()
	b.m.recount(objects)
	if got, e := b.l.Recount(objects); got != want || e != api.OK {
		b.Errorf("Recount: %d %d, not %d", got, e, want)
	}
	b.dirty("")
	holds(b.T, b.l, b.m)
}

// P15.1, New: the root alone, nothing kept, over, or dirty, of 0 scopes up to 8.
func TestNew(t *testing.T) {
	texts := []string{"all", "class", "all", "in:a,b;running", "noclass", "best", "terminating", "notbest"}
	for n := range len(texts) + 1 {
		b := fresh(t, texts[:n]...)
		holds(t, b.l, b.m)
		b.dirty("")
		if got := b.l.Tree().All(); len(got) != 1 || got[0] != "root" || len(b.l.Scopes()) != n {
			t.Errorf("%q, %d scopes", got, len(b.l.Scopes()))
		}
		for i := range 9 {
			b.has("root", i, "", "", "")
			b.over(i, "")
		}
		b.stepped(1, "")
		b.recounted(0)
	}
	for _, none := range [][]api.Scope{nil, {}, scopesOf(t, "all")[:0]} {
		if l, e := ledger.New(none); l == nil || e != api.OK || len(l.Scopes()) != 0 {
			t.Errorf("of no scopes: %d", e)
		}
	}
}

// wrongScopes are each a list of one scope that may not be.
func wrongScopes() [][]api.Scope {
	nine := []string{"a", "b", "c", "d", "e", "f", "g", "h", "i"}
	var l [][]api.Scope
	for _, s := range []api.Scope{
		{{Op: -1}}, {{Op: 8}}, {{Op: math.MaxInt}},
		{{Op: api.ClassIn}}, {{Op: api.ClassNotIn, Values: []string{}}}, {{Op: api.ClassIs, Values: []string{"a"}}},
		{{Op: api.ClassIn, Values: []string{"b", "a"}}}, {{Op: api.ClassIn, Values: []string{"a", "a"}}},
		{{Op: api.ClassIn, Values: []string{"A"}}}, {{Op: api.ClassNotIn, Values: []string{""}}}, {{Op: api.ClassIn, Values: nine}},
		{{Op: api.Running}, {Op: 8}}, slices.Repeat(api.Scope{{Op: api.Running}}, 9),
	} {
		l = append(l, []api.Scope{s})
	}
	return l
}

// P15.1, New: ErrArg, and no ledger, of 9 scopes, and where one may not be, wherever it stands.
func TestNewOfWrongScopes(t *testing.T) {
	lists := [][]api.Scope{make([]api.Scope, 9), make([]api.Scope, 200)}
	for _, wrong := range wrongScopes() {
		for at := range api.MaxBuckets {
			l := make([]api.Scope, api.MaxBuckets)
			l[at] = wrong[0]
			lists = append(lists, l, l[:at+1])
		}
	}
	for _, scopes := range lists {
		if l, e := ledger.New(scopes); l != nil || e != api.ErrArg {
			t.Errorf("%+v: %d", scopes, e)
		}
	}
}

// P15.1, Apply: each space that is told, and is a node, is touched: its path is dirty, and no other node; nothing is kept of it yet.
func TestApply(t *testing.T) {
	b := planted(t, "all best", "a/root b/a c/root d/b e/a")
	b.does(applies(come(pod("b", "x", "", "cpu=5"))))
	b.dirty("a b root")
	b.has("b", 0, "cpu=5,objects=1", "", "cpu=5,objects=1")
	b.has("b", 1, "", "", "")
	b.has("a", 0, "", "", "cpu=5,objects=1")
	b.has("root", 0, "", "", "cpu=5,objects=1")
	b.does(steps(9), applies(come(pod("c", "x", "*", "mem=1")), come(pod("e", "x", "", "mem=1"))))
	b.dirty("a c e root")
	b.does(steps(9), applies(come(pod("root", "x", "", ""))))
	b.dirty("root")
	b.has("root", 0, "objects=1", "cpu=5,mem=2,objects=3", "cpu=5,mem=2,objects=4")
	b.has("root", 1, "", "mem=1,objects=1", "mem=1,objects=1")
	b.does(steps(9), applies(come(pod("d", "x", "", ""))))
	b.dirty("a b d root")
	b.does(steps(9), applies(goes(pod("e", "x", "", "mem=1")), turns(pod("b", "x", "", "cpu=5"), pod("b", "x", "*", "cpu=7"))))
	b.dirty("a b e root")
	b.has("a", 0, "", "cpu=5,mem=1,objects=3", "cpu=7,objects=2")
	b.has("a", 1, "", "", "cpu=7,objects=1")
	b.over(0, "")
}

// P15.1, Apply: a space that is no node has own sums, and touches nothing, even where they don't fit.
func TestSpacesThatAreNoNodes(t *testing.T) {
	b := planted(t, "all", "a/root")
	b.does(applies(come(pod("z", "x", "", most)), come(pod("z", "y", "", "cpu=1")), come(pod("rooty", "y", "", "cpu=1"))))
	b.dirty("")
	b.has("z", 0, above+",objects=2", "", "")
	b.has("root", 0, "", "", "")
	b.over(0, "")
	if b.l.Over("z", 0) {
		t.Error("z is over, and no node")
	}
	b.does(applies(come(pod("a", "x", "", "cpu=3")), come(pod("z", "w", "", ""))))
	b.dirty("a root")
	b.stepped(9, "a root")
	b.has("root", 0, "", "cpu=3,objects=1", "cpu=3,objects=1")
	b.over(0, "")
}

// P15.1, Apply: where no sum is another one behind all deltas, nothing is touched.
func TestDeltasThatChangeNothing(t *testing.T) {
	b := planted(t, "class best;class", "a/root b/a")
	x, y := pod("b", "x", "high", most), pod("b", "y", "low", "cpu=1")
	b.does(applies(come(x)), steps(9))
	for _, d := range [][]api.Delta{
		nil, {},
		{{Key: x.Key}},
		{turns(x, with(x, func(o *api.Object) { o.Version = 7 }))},
		{turns(x, with(x, func(o *api.Object) { o.Class, o.Terminating = "low", true }))},
		{come(y), goes(y)},
		{goes(x), come(x)},
		{come(y), turns(x, y), goes(x), goes(y), goes(y), come(x), come(x)},
		{come(pod("a", "x", "", "cpu=1")), come(pod("b", "x", "*!", most))},
	} {
		b.does(applies(d...))
		b.dirty("")
		b.over(0, "")
		b.over(1, "")
	}
}

// charged are so many resources, of names that rise, each of another number.
func charged(count int) []api.Resource {
	var l []api.Resource
	for i := range count {
		l = append(l, api.Resource{Name: "r" + strconv.Itoa(1000+i), N: int64(i + 1)})
	}
	return l
}

// wrongObjects may not be, each for one cause.
func wrongObjects() []api.Object {
	x := pod("a", "x", "", "cpu=2,mem=1")
	return []api.Object{
		{},
		with(x, func(o *api.Object) { o.Key.Space = "" }),
		with(x, func(o *api.Object) { o.Key.Space = "A" }),
		with(x, func(o *api.Object) { o.Key.Space = long24 + "y" }),
		with(x, func(o *api.Object) { o.Key.Kind = "a/b" }),
		with(x, func(o *api.Object) { o.Key.Name = "-x" }),
		with(x, func(o *api.Object) { o.Version = 0 }),
		with(x, func(o *api.Object) { o.Version = math.MinInt64 }),
		with(x, func(o *api.Object) { o.Class = "High" }),
		with(x, func(o *api.Object) { o.Charge = charged(17) }),
		with(x, func(o *api.Object) { o.Charge[0].N = -1 }),
		with(x, func(o *api.Object) { o.Charge[1].N = math.MinInt64 }),
		with(x, func(o *api.Object) { o.Charge[0].Name = "z" }),
		with(x, func(o *api.Object) { o.Charge[1].Name = "cpu" }),
		with(x, func(o *api.Object) { o.Charge[1].Name = "\xff" }),
	}
}

// wrongDeltas may not be.
func wrongDeltas() []api.Delta {
	x, y := pod("a", "x", "", "cpu=2"), pod("b", "x", "", "cpu=2")
	l := []api.Delta{{Has: true}, {Had: true}, turns(x, y), turns(y, x), {Key: x.Key, Has: true, New: y}, {Key: y.Key, Had: true, Old: x}, {Had: true, Old: x, Has: true, New: x}}
	for _, o := range wrongObjects() {
		l = append(l, come(o), goes(o), turns(o, with(x, func(x *api.Object) { x.Key = o.Key })))
	}
	return l
}

// P15.1, Apply: ErrArg, if one delta may not be, wherever it stands: no sum is another one, and nothing is touched.
func TestWrongDeltas(t *testing.T) {
	for _, texts := range []string{"", "all", "best in:high"} {
		b := planted(t, texts, "a/root b/a c/root")
		b.does(applies(come(pod("c", "x", "*high", "cpu=3"))), steps(1))
		x, y := pod("a", "x", "*high", most), pod("b", "x", "*high", most)
		for _, wrong := range wrongDeltas() {
			b.refused(api.ErrArg, applies(wrong), applies(come(x), wrong), applies(wrong, come(y)), applies(come(x), come(x), wrong, come(y)), applies(wrong, wrong))
		}
		b.does(applies(come(x), come(y)))
	}
}

// P15.1, Create: a node is touched, as it comes, below whatever node.
func TestCreate(t *testing.T) {
	b := fresh(t, "all")
	b.does(creates("b", "root"))
	b.dirty("b root")
	b.has("b", 0, "", "", "")
	b.does(steps(9), creates("a", "b"))
	b.dirty("a b root")
	b.does(steps(9), creates("c", "root"), creates(long24, "a"))
	b.dirty("a " + long24 + " b c root")
	b.does(steps(2), creates("d", "c"))
	b.dirty("b c d root")
	b.over(0, "")
}

// P15.1, Create: a space that has own sums already becomes a node: they count at once, and where they don't fit, all of its path is over, with just these numbers.
func TestCreateOfASpaceThatIsTold(t *testing.T) {
	for _, y := range []struct {
		charge string
		over   bool
	}{{"cpu=4", false}, {"cpu=9223372036854775806", false}, {most, true}} {
		b := planted(t, "class all best in:high", "a/root b/a c/a")
		b.does(applies(come(pod("z", "x", "high", y.charge)), come(pod("z", "y", "*", "cpu=1"))))
		b.dirty("")
		sum := told(b.l.Own("z", 1))
		b.has("z", 1, sum, "", "")
		b.does(creates("z", "b"))
		b.dirty("a b root z")
		over := ""
		if y.over {
			over = "a b root z"
		}
		for i, want := range []string{"", over, "", ""} {
			b.over(i, want)
		}
		b.has("z", 1, sum, "", sum)
		b.has("root", 1, "", "", sum)
		b.stepped(1, "z")
		b.has("z", 1, sum, sum, sum)
		b.stepped(9, "b a root")
		b.has("root", 1, "", sum, sum)
		b.over(1, over)
		b.over(2, "")
	}
}

// P15.1: a node that is created, removed, and created anew, elsewhere: nothing is kept of it, and it is over, or not, by its own sums alone, however it was; so is its mark.
func TestCreatedAnew(t *testing.T) {
	b := planted(t, "all best", "a/root b/a c/root")
	x, y := pod("b", "x", "*", most), pod("b", "y", "*", "cpu=1")
	b.does(applies(come(x), come(y)), steps(9))
	b.has("b", 1, above+",objects=2", above+",objects=2", above+",objects=2")
	b.does(applies(goes(y)), steps(9))
	b.over(0, "a b root")
	b.does(removes("b"))
	b.over(0, "a root")
	b.has("b", 0, most+",objects=1", "", "")
	b.dirty("a root")
	b.does(creates("b", "c"))
	b.over(0, "a root")
	b.over(1, "a root")
	b.has("b", 0, most+",objects=1", "", most+",objects=1")
	b.dirty("a b c root")
	b.stepped(2, "b a")
	b.has("b", 1, most+",objects=1", most+",objects=1", most+",objects=1")
	b.does(applies(come(y)))
	b.over(1, "a b c root")
	b.does(removes("b"))
	b.over(1, "a c root")
	b.dirty("c root")
	b.recounted(3, x, y, pod("c", "x", "", "cpu=3"))
	b.over(0, "")
	b.does(removes("a"), creates("b", "root"))
	b.over(0, "b root")
	b.does(removes("b"), creates("a", "root"), creates("b", "a"))
	b.over(1, "a b root")
	b.dirty("a b root")
	b.stepped(9, "b a root")
}

// P15.1, Remove: a node's mark goes, and its parent is touched; its own sums stay, and count no more.
func TestRemove(t *testing.T) {
	b := planted(t, "all", "a/root b/a c/b d/a")
	b.does(applies(come(pod("c", "x", "", "cpu=5")), come(pod("b", "x", "", "cpu=1"))), steps(9), removes("c"))
	b.dirty("a b root")
	b.has("c", 0, "cpu=5,objects=1", "", "")
	b.has("b", 0, "cpu=1,objects=1", "cpu=6,objects=2", "cpu=1,objects=1")
	b.stepped(9, "b a root")
	b.has("root", 0, "", "cpu=1,objects=1", "cpu=1,objects=1")
	b.does(applies(come(pod("d", "x", "", "cpu=5"))))
	b.dirty("a d root")
	b.does(removes("d"))
	b.dirty("a root")
	b.stepped(9, "a root")
	b.does(removes("b"))
	b.dirty("a root")
	b.does(removes("a"))
	b.dirty("root")
	b.has("root", 0, "", "cpu=1,objects=1", "")
	b.stepped(9, "root")
	b.has("root", 0, "", "", "")
	b.does(applies(goes(pod("b", "x", "", "cpu=1")), come(pod("d", "y", "", ""))))
	b.dirty("")
}

// P15.1, Move: the old parent, and the new one, are touched, and neither the node, nor what is below it.
func TestMove(t *testing.T) {
	b := planted(t, "all", "a/root b/a c/b d/root e/d f/c")
	b.does(applies(come(pod("c", "x", "", "cpu=5")), come(pod("f", "x", "", "cpu=1")), come(pod("b", "x", "", "mem=1"))), steps(9), moves("c", "e"))
	b.dirty("a b d e root")
	b.has("c", 0, "cpu=5,objects=1", "cpu=6,objects=2", "cpu=6,objects=2")
	b.has("b", 0, "mem=1,objects=1", "cpu=6,mem=1,objects=3", "mem=1,objects=1")
	b.has("e", 0, "", "", "cpu=6,objects=2")
	b.stepped(9, "b e a d root")
	b.has("d", 0, "", "cpu=6,objects=2", "cpu=6,objects=2")
	b.has("a", 0, "", "mem=1,objects=1", "mem=1,objects=1")
	b.does(moves("e", "root"))
	b.dirty("d root")
	b.does(steps(9), moves("e", "root"))
	b.dirty("root")
	b.does(steps(9), moves("c", "root"))
	b.dirty("e root")
	b.does(steps(9), moves("c", "e"))
	b.dirty("e root")
	b.over(0, "")
}

// P15.1, Move: what is dirty goes with a node that moves, and all above it, where it is then, is dirty, too.
func TestMoveOfWhatIsDirty(t *testing.T) {
	b := planted(t, "all", "a/root b/a c/b d/root e/d")
	b.does(applies(come(pod("c", "x", "", "cpu=5"))), moves("b", "e"))
	b.dirty("a b c d e root")
	b.stepped(1, "c")
	b.stepped(9, "b e a d root")
	b.has("e", 0, "", "cpu=5,objects=1", "cpu=5,objects=1")
	b.does(applies(come(pod("c", "y", "", "cpu=1"))), steps(1), moves("c", "root"))
	b.dirty("b d e root")
	b.stepped(9, "b e d root")
	b.has("root", 0, "", "cpu=6,objects=2", "cpu=6,objects=2")
}

// P15.1, Move: with each number with which a node is over, all nodes of its new path are; those of the old one stay so.
func TestMoveOfWhatIsOver(t *testing.T) {
	b := planted(t, "best all class", "a/root b/a c/b d/root e/d f/e g/root")
	x, y := pod("c", "x", "high", most), pod("c", "y", "*", "cpu=1")
	b.does(applies(come(x), come(y)), steps(9), applies(goes(y)), steps(9))
	b.over(1, "a b c root")
	b.does(moves("b", "f"))
	b.over(0, "")
	b.over(1, "a b c d e f root")
	b.over(2, "")
	b.does(moves("c", "g"))
	b.over(1, "a b c d e f g root")
	b.does(steps(9))
	b.recounted(0, x)
	b.over(1, "")
	z := pod("b", "x", "low*", most)
	b.does(applies(come(z), come(y), come(pod("b", "y", "low*", "cpu=1"))))
	b.over(0, "b d e f root")
	b.over(1, "b c d e f g root")
	b.over(2, "b d e f root")
	b.does(moves("c", "a"))
	b.over(0, "b d e f root")
	b.over(1, "a b c d e f g root")
	b.does(moves("b", "c"))
	b.over(0, "a b c d e f root")
	b.over(1, "a b c d e f g root")
	b.over(2, "a b c d e f root")
}

// P15.1: a creation, a removal, or a move that is refused touches nothing.
func TestRefused(t *testing.T) {
	b := planted(t, "all", "a/root b/a c/root c2/c c3/c2 c4/c3 c5/c4 c6/c5 c7/c6")
	b.does(applies(come(pod("b", "x", "", most)), come(pod("z", "x", "", most)), come(pod("z", "y", "", most))), steps(9))
	for range 2 {
		b.refused(api.ErrArg, creates("", "root"), creates("A", "root"), creates("-z", "none"), creates(long24+"y", "a"), creates("\xff", "a"), removes("root"), moves("root", "a"), moves("root", "root"))
		b.refused(api.ErrIs, creates("a", "root"), creates("b", "root"), creates("root", "a"), creates("a", "none"))
		b.refused(api.ErrNone, creates("z", "none"), creates("z", ""), creates("z", "z"), removes("z"), removes(""), moves("z", "a"), moves("a", "z"), moves("", "root"), moves("root", "z"))
		b.refused(api.ErrDeep, creates("z", "c7"), moves("a", "c6"), moves("b", "c7"), moves("c", "a"))
		b.refused(api.ErrLeaf, removes("a"), removes("c"), removes("c6"))
		b.refused(api.ErrCycle, moves("a", "a"), moves("a", "b"), moves("c", "c7"))
		b.does(applies(come(pod("b", "y", "", "cpu=1"))), steps(1))
		b.over(0, "a b root")
	}
	b.does(removes("c7"), removes("c6"))
	for i := len(b.l.Tree().All()); i < api.MaxNodes; i++ {
		do(t, b.l, b.m, creates("n"+strconv.Itoa(i), "root"))
	}
	b.does(steps(100))
	b.refused(api.ErrFull, creates("z", "root"), creates("z", "b"))
	b.does(steps(100))
	b.refused(api.ErrFull, creates("z", "root"), creates("z", "b"))
	b.does(removes("b"), creates("z", "a"))
	b.over(0, "a root z")
}

// P15.1, P15.3, Step: the deepest ones first, of some of one depth the least; as many as the budget, or as there are dirty nodes.
func TestStep(t *testing.T) {
	b := fresh(t, "all")
	b.does(creates("z", "root"), creates("y", "z"), creates("a", "root"), creates("c", "a"), creates("b", "y"), creates("m", "a"))
	b.dirty("a b c m root y z")
	for range 2 {
		for _, budget := range []int{0, -1, -7, math.MinInt} {
			b.refused(api.ErrArg, steps(budget))
		}
		b.stepped(1, "b")
		b.dirty("a c m root y z")
		b.stepped(3, "c m y")
		b.dirty("a root z")
		b.stepped(3, "a z root")
		b.dirty("")
		b.stepped(1, "")
		b.stepped(math.MaxInt, "")
		b.refused(api.ErrArg, steps(0))
		b.does(applies(come(pod("b", "x", "", "cpu=1")), come(pod("m", "x", "", "cpu=2")), come(pod("c", "x", "", "cpu=2"))))
	}
	b.stepped(6, "b c m y a z")
	b.stepped(2, "root")
	b.does(applies(come(pod("y", "x", "", "cpu=1"))))
	b.stepped(math.MaxInt, "y z root")
	b.does(applies(come(pod("y", "y", "", "cpu=1"))), creates("d", "c"))
	b.stepped(1, "d")
	b.does(applies(come(pod("b", "y", "", "cpu=1"))))
	b.stepped(1, "b")
	b.does(applies(come(pod("d", "y", "", "cpu=1"))))
	b.stepped(100, "d c y a z root")
}

// P15.3: many steps at once are as as many one by one, and none makes anything dirty.
func TestStepByStep(t *testing.T) {
	for budget := 1; budget < 12; budget++ {
		b := planted(t, "all best", "a/root b/a c/b d/root e/d f/a")
		one := planted(t, "all best", "a/root b/a c/b d/root e/d f/a")
		for i, space := range []string{"c", "e", "f", "a", "root"} {
			d := applies(come(pod(space, "x", "*", "cpu="+strconv.Itoa(1<<i))))
			b.does(d)
			one.does(d)
		}
		for left := len(b.l.Dirty()); left > 0; {
			was := b.l.Dirty()
			worked, e := b.l.Step(budget)
			if e != api.OK || len(worked) != min(budget, left) {
				t.Fatalf("%d of %q: %q %d", budget, was, worked, e)
			}
			b.m.step(budget)
			holds(t, b.l, b.m)
			for _, node := range worked {
				if !slices.Contains(was, node) {
					t.Errorf("%s was not dirty, of %q", node, was)
				}
				one.stepped(1, node)
			}
			left = len(b.l.Dirty())
			if left != len(was)-len(worked) || look(one.l) != look(b.l) {
				t.Fatalf("%q behind %q, worked on %q\n%s, one by one\n%s", b.l.Dirty(), was, worked, look(b.l), look(one.l))
			}
		}
		b.has("root", 1, "cpu=16,objects=1", "cpu=31,objects=5", "cpu=31,objects=5")
	}
}

// P15.5, T5: own sums that fit, and such that just don't: the node is over at once, and those above it are; those below, and beside it, are not.
func TestOwnSumsThatJustFit(t *testing.T) {
	for _, y := range []struct {
		over   string
		deltas []api.Delta
	}{
		{"", []api.Delta{come(pod("b", "x", "", most))}},
		{"", []api.Delta{come(pod("b", "x", "", most)), come(pod("b", "y", "", "mem=9223372036854775807"))}},
		{"a b root", []api.Delta{come(pod("b", "x", "", most)), come(pod("b", "y", "", "cpu=1"))}},
		{"a b root", []api.Delta{come(pod("b", "x", "", "a=3,z=9223372036854775807")), come(pod("b", "y", "", "z=1"))}},
		{"a b root", []api.Delta{come(pod("b", "x", "", "objects=9223372036854775807"))}},
		{"", []api.Delta{come(pod("b", "x", "", "objects=9223372036854775806"))}},
		{"a root", []api.Delta{come(pod("a", "x", "", most)), come(pod("a", "y", "", "cpu=1"))}},
		{"root", []api.Delta{come(pod("root", "x", "", most)), come(pod("root", "y", "", "cpu=1"))}},
		{"a b c d root", []api.Delta{come(pod("c", "x", "", most)), come(pod("d", "y", "", "objects=9223372036854775807")), come(pod("c", "x", "", "cpu=1"))}},
		{"", []api.Delta{come(pod("b", "x", "", most)), come(pod("b", "y", "", most)), goes(pod("b", "x", "", most))}},
	} {
		b := planted(t, "best all", "a/root b/a c/b d/root")
		b.does(applies(y.deltas...))
		b.over(0, "")
		b.over(1, y.over)
		one := planted(t, "best all", "a/root b/a c/b d/root")
		for _, d := range y.deltas {
			one.does(applies(d))
		}
		if y.over != "" {
			one.over(1, y.over)
			one.stepped(9, strings.Join(stepsOf(one), " "))
			one.over(1, y.over)
		}
	}
}

// stepsOf are the nodes that are to be worked on, in order.
func stepsOf(b both) []string {
	l := b.l.Dirty()
	slices.SortStableFunc(l, func(x, y string) int { return len(b.l.Tree().Path(y)) - len(b.l.Tree().Path(x)) })
	return l
}

// P15.5, T5: kept sums that fit, and such that just don't, of nodes whose own sums fit: over is who is worked on, and all above it at once; ahead of that step none is.
func TestKeptSumsThatJustFit(t *testing.T) {
	b := planted(t, "all best", "a/root b/a c/b d/a e/root")
	b.does(applies(come(pod("c", "x", "", most)), come(pod("d", "x", "", "mem=9223372036854775807"))), steps(9))
	b.over(0, "")
	b.has("a", 0, "", most+",mem=9223372036854775807,objects=2", most+",mem=9223372036854775807,objects=2")
	b.does(applies(come(pod("d", "y", "", "cpu=1"))))
	b.over(0, "")
	b.has("a", 0, "", most+",mem=9223372036854775807,objects=2", above+",mem=9223372036854775807,objects=3")
	b.stepped(1, "d")
	b.over(0, "")
	b.stepped(1, "a")
	b.over(0, "a root")
	b.dirty("root")
	b.has("root", 0, "", most+",mem=9223372036854775807,objects=2", above+",mem=9223372036854775807,objects=3")
	b.stepped(1, "root")
	b.has("root", 0, "", above+",mem=9223372036854775807,objects=3", above+",mem=9223372036854775807,objects=3")
	b.over(0, "a root")
	b.over(1, "")
	for node, over := range map[string]string{"b": "a b root", "e": "root", "root": "root", "a": "a root"} {
		b = planted(t, "best all", "a/root b/a c/b d/a e/root")
		b.does(applies(come(pod("c", "x", "*", most))), applies(come(pod(node, "y", "", "cpu=1"))))
		b.over(1, "")
		b.does(steps(4), steps(9))
		b.over(0, "")
		b.over(1, over)
	}
}

// P15.5: what is over stays so, though what was too much is gone, and all steps are done, till a Recount.
func TestOverStays(t *testing.T) {
	b := planted(t, "all best", "a/root b/a c/root")
	x, y := pod("b", "x", "*", most), pod("b", "y", "", "cpu=1")
	b.does(applies(come(x), come(y)))
	for _, a := range []act{applies(goes(y)), steps(1), steps(9), applies(goes(x)), steps(9), creates("d", "b"), removes("d"), moves("c", "a"), moves("c", "root"), moves("b", "c"), moves("b", "a"), steps(9)} {
		b.does(a)
		for _, node := range []string{"a", "b", "root"} {
			if !b.l.Over(node, 0) || b.l.Over(node, 1) {
				t.Errorf("%s, behind %s", node, a.name)
			}
		}
	}
	b.has("root", 0, "", "", "")
	b.over(0, "a b c root")
	b.recounted(0)
	b.over(0, "")
	b.does(applies(come(x), come(y)), steps(9))
	b.over(0, "a b root")
	b.recounted(0, x, y)
	b.over(0, "a b root")
	b.recounted(6, y)
	b.over(0, "")
	b.recounted(7, x, with(y, func(o *api.Object) { o.Key.Space = "c" }))
	b.over(0, "root")
}

// P15.1, P15.4, Recount: of how many pairs of a node and a number the own sum, or the kept one, was another one.
func TestDrift(t *testing.T) {
	x, y, z := pod("b", "x", "*", "cpu=5"), pod("c", "y", "", "cpu=1"), pod("z", "x", "*", "cpu=9")
	start := func(t *testing.T) both {
		b := planted(t, "all best", "a/root b/a c/root")
		b.does(applies(come(x), come(y), come(z)), steps(9))
		return b
	}
	for _, w := range []struct {
		name    string
		drift   int
		objects []api.Object
		acts    []act
	}{
		{"the same", 0, []api.Object{x, y, z}, nil},
		{"in another order", 0, []api.Object{z, y, x}, nil},
		{"no node's is another one", 0, []api.Object{x, y}, nil},
		{"that of no node is there more often", 0, []api.Object{x, z, y, z, z}, nil},
		{"none: b, a, root with both, c with 0", 7, nil, nil},
		{"c, and root, with 0", 2, []api.Object{x}, nil},
		{"b, a, root with both", 6, []api.Object{y, z}, nil},
		{"root's own one, too", 2, []api.Object{x, y, z, pod("root", "x", "*", "")}, nil},
		{"b, a, root with 1 alone", 3, []api.Object{with(x, func(o *api.Object) { o.Best = false }), y}, nil},
		{"b with both, and a's own ones, while what is kept of a, and the root, is as it was", 4, []api.Object{with(x, func(o *api.Object) { o.Key.Space = "a" }), y}, nil},
		{"kept ones that are not yet told of", 2, []api.Object{x, y, pod("c", "z", "", "")}, []act{applies(come(pod("c", "z", "", "")))}},
		{"some of them", 1, []api.Object{x, y, pod("c", "z", "", "")}, []act{applies(come(pod("c", "z", "", ""))), steps(1)}},
		{"dirty, and as they were", 0, []api.Object{x, y}, []act{applies(come(pod("c", "z", "", "")), come(pod("b", "z", "*", ""))), applies(goes(pod("c", "z", "", "")), goes(pod("b", "z", "*", "")))}},
		{"an own one that was kept nowhere yet", 1, []api.Object{x, y}, []act{applies(come(pod("c", "z", "", "cpu=1")))}},
		{"a node that came", 6, []api.Object{x, y, z}, []act{creates("z", "a")}},
		{"a node that came, and went", 0, []api.Object{x, y, z}, []act{creates("z", "a"), removes("z")}},
		{"a node that went", 4, []api.Object{x, y, z}, []act{removes("b")}},
		{"a node that moved", 3, []api.Object{x, y, z}, []act{moves("c", "b"), moves("c", "a"), moves("b", "c")}},
		{"the root's with 0 alone", 1, []api.Object{x, y, pod("root", "x", "", "")}, nil},
	} {
		t.Run(w.name, func(t *testing.T) {
			b := start(t)
			b.does(w.acts...)
			b.recounted(w.drift, w.objects...)
			b.recounted(0, w.objects...)
		})
	}
}

// P15.1, Recount: all is as the table tells, of whatever was there: own sums, of spaces that are no nodes, too, kept ones, and who is over; nothing is dirty.
func TestRecount(t *testing.T) {
	x, y, z := pod("b", "x", "*", most), pod("b", "y", "", "cpu=1"), pod("z", "x", "*", "cpu=9")
	for _, acts := range [][]act{
		nil,
		{applies(come(x), come(y), come(z))},
		{applies(come(x), come(y), come(z)), steps(9)},
		{applies(come(x), come(y), come(z)), steps(9), applies(goes(x)), steps(1)},
		{applies(come(x)), creates("z", "b"), applies(come(z)), removes("z"), moves("b", "c")},
		{applies(goes(x), goes(z)), steps(9)},
		{applies(come(z)), creates("z", "a"), steps(1)},
	} {
		for _, w := range []struct {
			objects   []api.Object
			own, root string
			over      [2]bool
		}{
			{[]api.Object{x, y}, above + ",objects=2", above + ",objects=2", [2]bool{true, true}},
			{[]api.Object{x}, most + ",objects=1", most + ",objects=1", [2]bool{}},
			{[]api.Object{x, with(y, func(o *api.Object) { o.Key.Space = "a" })}, most + ",objects=1", above + ",objects=2", [2]bool{false, true}},
			{nil, "", "", [2]bool{}},
			{[]api.Object{}, "", "", [2]bool{}},
		} {
			b := planted(t, "all best", "a/root b/a c/root")
			b.does(acts...)
			b.does(recounts(w.objects...))
			b.dirty("")
			if got, kept := told(b.l.Own("b", 0)), told(b.l.Kept("root", 0)); got != w.own || kept != w.root || len(b.l.Own("z", 0)) != 0 {
				t.Errorf("own %q, kept %q, and of no node %v", got, kept, b.l.Own("z", 0))
			}
			if got := [2]bool{b.l.Over("b", 0), b.l.Over("root", 0)}; got != w.over {
				t.Errorf("over %v, not %v", got, w.over)
			}
			b.over(1, "")
			was := look(b.l, "z")
			b.recounted(0, w.objects...)
			b.stepped(9, "")
			if is := look(b.l, "z"); is != was {
				t.Errorf("once more:\n%s, was\n%s", is, was)
			}
			b.does(applies(come(z), come(y)), steps(9), applies(goes(z), goes(y)), steps(9))
		}
	}
}

// P15.4: of a ledger that is not dirty, and whose own sums are those of the objects, a Recount tells 0, and changes nothing but what is over.
func TestNoDrift(t *testing.T) {
	b := planted(t, "all best", "a/root b/a c/root")
	x, y := pod("b", "x", "*", most), pod("b", "y", "", "cpu=1")
	b.does(applies(come(x), come(pod("z", "x", "", "cpu=1")), come(pod("c", "x", "", "cpu=1"))), steps(9), applies(goes(pod("c", "x", "", "cpu=1"))), steps(9))
	was := look(b.l, "z")
	b.over(0, "root")
	b.recounted(0, x, pod("z", "x", "", "cpu=1"))
	b.over(0, "")
	if is := look(b.l, "z"); is != strings.ReplaceAll(was, "over true", "over false") {
		t.Errorf("%s, was\n%s", is, was)
	}
	b.does(applies(come(y)), steps(9))
	was = look(b.l, "z")
	b.recounted(0, y, pod("z", "x", "", "cpu=1"), x)
	if is := look(b.l, "z"); is != was {
		t.Errorf("%s, was\n%s", is, was)
	}
	b.over(0, "a b root")
}

// P15.1, Recount: ErrArg, if an object may not be, wherever it stands: then nothing is changed, be there anything dirty, drifted, or over.
func TestRecountOfWhatMayNotBe(t *testing.T) {
	x, y := pod("b", "x", "*", most), pod("b", "y", "", "cpu=1")
	for _, texts := range []string{"", "all best", "in:high"} {
		b := planted(t, texts, "a/root b/a c/root")
		b.does(applies(come(x), come(y), come(pod("z", "x", "", "cpu=1"))), steps(9), applies(goes(y)), steps(1))
		for _, wrong := range wrongObjects() {
			b.refused(api.ErrArg, recounts(wrong), recounts(x, wrong), recounts(wrong, x), recounts(x, y, wrong, y))
		}
		b.does(steps(9))
		b.refused(api.ErrArg, recounts(api.Object{}), recounts(x, api.Object{}))
		b.does(recounts(x, y))
		b.dirty("")
	}
}

// P15.1: without scopes there are no sums, so that deltas touch nothing, and nothing drifts; nodes are touched all the same.
func TestNoScopes(t *testing.T) {
	b := fresh(t)
	b.does(applies(come(pod("root", "x", "", most))), applies(come(pod("root", "y", "", most))))
	b.dirty("")
	b.does(creates("a", "root"))
	b.dirty("a root")
	b.does(creates("b", "a"), applies(come(pod("b", "x", "", ""))))
	b.stepped(2, "b a")
	b.stepped(2, "root")
	b.does(moves("b", "root"))
	b.dirty("a root")
	b.does(steps(9), removes("b"))
	b.dirty("root")
	b.refused(api.ErrArg, applies(come(api.Object{})), recounts(api.Object{}))
	b.recounted(0, pod("a", "x", "", most), pod("a", "y", "", most))
	for i := -1; i < 9; i++ {
		b.has("a", i, "", "", "")
		b.has("root", i, "", "", "")
		b.over(i, "")
	}
}

// P15.1: of 8 scopes each has sums of its own, and is over, or not, by itself.
func TestEightScopes(t *testing.T) {
	b := planted(t, "all noclass in:high running best all notbest class;terminating", "a/root b/a c/root")
	x, y := pod("b", "x", "high!*", most), pod("b", "y", "", "cpu=1")
	b.does(applies(come(x), come(y)))
	for i, w := range []struct{ sum, over string }{
		{above + ",objects=2", "a b root"}, {"cpu=1,objects=1", ""}, {most + ",objects=1", ""}, {"cpu=1,objects=1", ""},
		{most + ",objects=1", ""}, {above + ",objects=2", "a b root"}, {"cpu=1,objects=1", ""}, {most + ",objects=1", ""},
	} {
		b.has("b", i, w.sum, "", w.sum)
		b.over(i, w.over)
	}
	z := pod("c", "z", "high", "cpu=1")
	b.does(applies(come(z)), steps(9))
	for i, over := range strings.Split("a b root,,root,,,a b root,,", ",") {
		b.over(i, over)
	}
	b.recounted(3*7, with(x, func(o *api.Object) { o.Class = "" }), z)
}

// P15.1: deltas behind a Recount of other objects: own sums are below nothing, and add up; they fit down to -2^63.
func TestBelowNothing(t *testing.T) {
	b := planted(t, "all best", "a/root b/a c/root")
	x, y := pod("b", "x", "*", most), pod("b", "y", "", "cpu=1")
	b.does(applies(come(x), come(y)))
	b.recounted(4, pod("a", "z", "", "cpu=3"))
	b.does(applies(goes(x)))
	b.dirty("a b root")
	b.has("b", 1, "cpu=-9223372036854775807,objects=-1", "", "cpu=-9223372036854775807,objects=-1")
	b.does(applies(goes(y)))
	b.over(0, "")
	b.has("b", 0, "cpu=-9223372036854775808,objects=-2", "", "cpu=-9223372036854775808,objects=-2")
	b.has("a", 0, "cpu=3,objects=1", "cpu=3,objects=1", "cpu=-9223372036854775805,objects=-1")
	b.stepped(9, "b a root")
	b.over(0, "")
	b.does(applies(goes(pod("c", "x", "", "cpu=4"))))
	b.over(0, "")
	b.stepped(1, "c")
	b.over(0, "")
	b.stepped(1, "root")
	b.over(0, "root")
	b.has("root", 0, "", "cpu=-9223372036854775809,objects=-2", "cpu=-9223372036854775809,objects=-2")
	b.recounted(7, y)
	b.over(0, "")
	b.does(applies(goes(x)), applies(goes(y)), applies(goes(y)), applies(goes(y)))
	b.over(0, "a b root")
	b.over(1, "")
	b.recounted(2, y)
	b.does(applies(goes(y), goes(y), come(y)))
	b.has("b", 0, "", "cpu=1,objects=1", "")
	b.stepped(3, "b a root")
	b.has("root", 0, "", "", "")
}

// P15.1: own sums that don't fit, while those below make up for them: over is who is touched, though its true sum fits.
func TestOverThoughTheTrueSumFits(t *testing.T) {
	b := planted(t, "all", "a/root b/a")
	b.does(applies(goes(pod("b", "x", "", "cpu=9"))), steps(9))
	b.does(applies(come(pod("a", "x", "", most)), come(pod("a", "y", "", "cpu=1"))))
	b.over(0, "a root")
	b.does(steps(9))
	b.has("a", 0, above+",objects=2", "cpu=9223372036854775799,objects=1", "cpu=9223372036854775799,objects=1")
	b.over(0, "a root")
	b.recounted(3, pod("a", "x", "", most))
	b.over(0, "")
}

// P15.1, True: what there is by own sums, whatever is kept, while nodes are dirty, and when none is.
func TestTrueBesideKept(t *testing.T) {
	b := planted(t, "all", "a/root b/a c/root")
	b.does(applies(come(pod("b", "x", "", "cpu=1")), come(pod("a", "x", "", "cpu=10")), come(pod("c", "x", "", "cpu=100")), come(pod("root", "x", "", "cpu=1000")), come(pod("z", "x", "", "cpu=7"))))
	for _, w := range []struct{ act, b, a, c, root string }{
		{"", "", "", "", ""},
		{"b", "cpu=1,objects=1", "", "", ""},
		{"a", "cpu=1,objects=1", "cpu=11,objects=2", "", ""},
		{"c", "cpu=1,objects=1", "cpu=11,objects=2", "cpu=100,objects=1", ""},
		{"root", "cpu=1,objects=1", "cpu=11,objects=2", "cpu=100,objects=1", "cpu=1111,objects=4"},
	} {
		if w.act != "" {
			b.stepped(1, w.act)
		}
		b.has("b", 0, "cpu=1,objects=1", w.b, "cpu=1,objects=1")
		b.has("a", 0, "cpu=10,objects=1", w.a, "cpu=11,objects=2")
		b.has("c", 0, "cpu=100,objects=1", w.c, "cpu=100,objects=1")
		b.has("root", 0, "cpu=1000,objects=1", w.root, "cpu=1111,objects=4")
		b.has("z", 0, "cpu=7,objects=1", "", "")
	}
	b.dirty("")
}

// P15.1: nothing, and false, of a number below 0, or too great, of each space; and, but for Own, of a space that is no node, or may not be.
func TestOfNone(t *testing.T) {
	b := planted(t, "all best", "a/root")
	b.does(applies(come(pod("a", "x", "*", most)), come(pod("a", "y", "*", most)), come(pod("z", "x", "*", most)), come(pod("z", "y", "*", most))), steps(9))
	b.over(1, "a root")
	for _, space := range []string{"a", "root", "z", "b", ""} {
		for _, i := range []int{-1, -2, 2, 3, 7, 8, 1 << 32, 1<<32 + 1, -1 << 32, math.MinInt, math.MaxInt, math.MinInt + 1} {
			if got := tells(b.l, space, i); got != "own  kept  true  over false" {
				t.Errorf("%q, %d: %s", space, i, got)
			}
		}
	}
	for _, space := range []string{"", "b", "A", "a ", " a", "a/pod/x", "a\x00", "-", "objects", "cpu", "\xff", "Root", strings.Repeat("a", 1<<16)} {
		for i := -1; i < 4; i++ {
			if got := tells(b.l, space, i); got != "own  kept  true  over false" {
				t.Errorf("%.50q, %d: %s", space, i, got)
			}
		}
	}
	for i := range 2 {
		b.has("z", i, "cpu=18446744073709551614,objects=2", "", "")
		if b.l.Over("z", i) {
			t.Error("no node is over")
		}
	}
}

// P15.1, Tree: the tree, to be read, as it is at any time.
func TestTheTree(t *testing.T) {
	b := fresh(t, "all")
	x := b.l.Tree()
	b.does(creates("a", "root"), creates("b", "a"), moves("b", "root"))
	if x == nil || shape(x) != "a/root b/root root/" || shape(b.l.Tree()) != shape(x) {
		t.Errorf("%s, not %s", shape(x), shape(b.l.Tree()))
	}
	b.does(removes("a"))
	if shape(b.l.Tree()) != "b/root root/" {
		t.Errorf("%s", shape(b.l.Tree()))
	}
}

// P15.1, Scopes: the scopes, in their order.
func TestScopes(t *testing.T) {
	texts := []string{"in:high,low;running", "all", "class", "all"}
	b := fresh(t, texts...)
	b.does(creates("a", "root"), applies(come(pod("a", "x", "", ""))), recounts())
	var got []string
	for _, s := range b.l.Scopes() {
		got = append(got, scope.Text(s))
	}
	if !slices.Equal(got, texts) {
		t.Errorf("%q", got)
	}
}

// P1, P15.3: 200 nodes, 8 deep, and 1000 objects: as many steps as there are dirty nodes leave none, and a Recount tells 0.
func TestManyNodes(t *testing.T) {
	b := fresh(t, "all", "best")
	var objects []api.Object
	for i := 1; i < api.MaxNodes; i++ {
		name, parent := "n"+strconv.Itoa(i), "n"+strconv.Itoa(i-1)
		if i%7 == 1 {
			parent = api.Root
		}
		do(t, b.l, b.m, creates(name, parent))
	}
	for i := range api.MaxObjects {
		o := pod("n"+strconv.Itoa(1+i%199), strconv.Itoa(i), []string{"", "*"}[i%2], "cpu="+strconv.Itoa(i))
		objects = append(objects, o)
		do(t, b.l, b.m, applies(come(o)))
	}
	if n := len(b.l.Dirty()); n != api.MaxNodes {
		t.Errorf("%d dirty", n)
	}
	do(t, b.l, b.m, steps(7), steps(100), steps(93))
	b.has("root", 0, "", "cpu=499500,objects=1000", "cpu=499500,objects=1000")
	b.recounted(0, objects...)
	b.has("root", 1, "", "cpu=250000,objects=500", "cpu=250000,objects=500")
	b.recounted(400, append(objects[500:], objects...)...)
}

// T5: what fits into 64 bits no more does not wrap round: all sums are exact.
func TestSumsOfMoreThan64Bits(t *testing.T) {
	b := planted(t, "all", "a/root b/a c/a")
	var objects []api.Object
	for i := range 6 {
		o := pod([]string{"a", "b", "c"}[i%3], strconv.Itoa(i), "", most+",mem=9223372036854775806,objects=9223372036854775807")
		objects = append(objects, o)
		b.does(applies(come(o)))
	}
	const two = "cpu=18446744073709551614,mem=18446744073709551612,objects=18446744073709551616"
	const six = "cpu=55340232221128654842,mem=55340232221128654836,objects=55340232221128654848"
	b.over(0, "a b c root")
	b.does(steps(9))
	b.has("a", 0, two, six, six)
	b.has("root", 0, "", six, six)
	b.recounted(0, objects...)
	b.over(0, "a b c root")
	b.has("root", 0, "", six, six)
	b.has("b", 0, two, two, two)
}

// P15.1: on a nil ledger ErrArg, and nothing, false, whatever is handed in.
func TestNil(t *testing.T) {
	var none *ledger.Ledger
	x := pod("a", "x", "", "")
	var acts []act
	for _, d := range append([][]api.Delta{nil, {}, {{}}, {come(x)}}, wrongDeltas()) {
		acts = append(acts, applies(d...))
	}
	acts = append(acts, recounts(), recounts(x), recounts(api.Object{}))
	for _, budget := range []int{math.MinInt, -1, 0, 1, math.MaxInt} {
		acts = append(acts, steps(budget))
	}
	for _, name := range []string{"", "a", "root", "A"} {
		acts = append(acts, removes(name), creates(name, "root"), creates("a", name), moves(name, "root"), moves("a", name))
	}
	for _, a := range acts {
		if got := a.to(none); got != "1" && got != "0 1" && got != "[] 1" {
			t.Errorf("%s: %s", a.name, got)
		}
	}
	for _, space := range []string{"", "a", "root", "A"} {
		for _, i := range []int{math.MinInt, -1, 0, 1, math.MaxInt} {
			if got := tells(none, space, i); got != "own  kept  true  over false" {
				t.Errorf("%q, %d: %s", space, i, got)
			}
		}
	}
	if none.Tree() != nil || len(none.Dirty()) != 0 || len(none.Scopes()) != 0 {
		t.Error("a nil one has something")
	}
}
