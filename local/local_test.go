package local_test

import (
	"math"
	"slices"
	"strconv"
	"strings"
	"testing"

	"scutage/api"
	"scutage/local"
	"scutage/scope"
	"scutage/vector"
)

const long24 = "abcdefghijklmnopqrstuvwx"

// pod is an object of a space, with a class, if there is one, `!` behind it where it is terminating, and `*` where it is best.
func pod(space, name, class, charge string) api.Object {
	l, e := vector.Parse(charge)
	if e != api.OK {
		panic(charge)
	}
	o := api.Object{Key: api.Key{Space: space, Kind: "pod", Name: name}, Version: 1, Charge: l}
	o.Terminating, o.Best = strings.Contains(class, "!"), strings.Contains(class, "*")
	o.Class = strings.Trim(class, "!*")
	return o
}

// with is an object, changed, with a list of its own.
func with(o api.Object, change func(o *api.Object)) api.Object {
	o.Charge = slices.Clone(o.Charge)
	change(&o)
	return o
}

func come(o api.Object) api.Delta { return api.Delta{Key: o.Key, Has: true, New: o} }

func goes(o api.Object) api.Delta { return api.Delta{Key: o.Key, Had: true, Old: o} }

func turns(old, now api.Object) api.Delta {
	return api.Delta{Key: now.Key, Had: true, Old: old, Has: true, New: now}
}

// scopesOf are those of these texts.
func scopesOf(t *testing.T, texts ...string) []api.Scope {
	t.Helper()
	var l []api.Scope
	for _, text := range texts {
		s, e := scope.Parse(text)
		if e != api.OK {
			t.Fatalf("%s: %d", text, e)
		}
		l = append(l, s)
	}
	return l
}

// fresh are sums of scopes of these texts, and the model of them.
func fresh(t *testing.T, texts ...string) (*local.Local, *model) {
	t.Helper()
	scopes := scopesOf(t, texts...)
	l, e := local.New(scopes)
	if l == nil || e != api.OK {
		t.Fatalf("New: %d", e)
	}
	return l, &model{scopes: scopes}
}

// applied tells whether deltas are applied, and which spaces are told.
func applied(t *testing.T, l *local.Local, spaces string, d ...api.Delta) {
	t.Helper()
	if got, e := l.Apply(d); e != api.OK || strings.Join(got, " ") != spaces {
		t.Errorf("%+v: %q %d, not %q", d, got, e, spaces)
	}
}

// loaded loads objects that may be.
func loaded(t *testing.T, l *local.Local, o ...api.Object) {
	t.Helper()
	if e := l.Load(o); e != api.OK {
		t.Errorf("Load: %d", e)
	}
}

// has tells whether the sums of a space are these, of each scope's number one.
func has(t *testing.T, l *local.Local, space string, sums ...string) {
	t.Helper()
	for i, want := range sums {
		v := l.Sum(space, i)
		if got := told(v); got != want || !vector.Right(v) {
			t.Errorf("%s, %d: %q, not %q", space, i, got, want)
		}
	}
}

// spaces tells whether these have any.
func spaces(t *testing.T, l *local.Local, want string) {
	t.Helper()
	if got := strings.Join(l.Spaces(), " "); got != want {
		t.Errorf("spaces %q, not %q", got, want)
	}
}

// refuses applies what must answer ErrArg, and change nothing.
func refuses(t *testing.T, l *local.Local, d ...api.Delta) {
	t.Helper()
	was := look(l)
	if got, e := l.Apply(d); e != api.ErrArg || len(got) != 0 {
		t.Errorf("%+v: %q %d", d, got, e)
	}
	if is := look(l); is != was {
		t.Errorf("an error changes\n%s to\n%s", was, is)
	}
}

// refusesLoad loads what must answer ErrArg, and change nothing.
func refusesLoad(t *testing.T, l *local.Local, o ...api.Object) {
	t.Helper()
	was := look(l)
	if e := l.Load(o); e != api.ErrArg {
		t.Errorf("%+v: %d", o, e)
	}
	if is := look(l); is != was {
		t.Errorf("an error changes\n%s to\n%s", was, is)
	}
}

// P13.1, New: all sums are empty, of 0 scopes up to 8.
func TestNew(t *testing.T) {
	texts := []string{"all", "class", "all", "in:a,b;running", "noclass", "best", "terminating", "notbest"}
	for n := range len(texts) + 1 {
		l, m := fresh(t, texts[:n]...)
		holds(t, l, m)
		spaces(t, l, "")
		if len(l.Scopes()) != n {
			t.Errorf("%d scopes, not %d", len(l.Scopes()), n)
		}
	}
	for _, none := range [][]api.Scope{nil, {}, scopesOf(t, "all")[:0]} {
		if l, e := local.New(none); l == nil || e != api.OK || len(l.Scopes()) != 0 {
			t.Errorf("of none: %d", e)
		}
	}
}

// wrongScopes may not be.
func wrongScopes() []api.Scope {
	nine := []string{"a", "b", "c", "d", "e", "f", "g", "h", "i"}
	return []api.Scope{
		{{Op: -1}}, {{Op: 8}}, {{Op: math.MaxInt}},
		{{Op: api.ClassIn}}, {{Op: api.ClassNotIn, Values: []string{}}}, {{Op: api.ClassIs, Values: []string{"a"}}},
		{{Op: api.ClassIn, Values: []string{"b", "a"}}}, {{Op: api.ClassIn, Values: []string{"a", "a"}}},
		{{Op: api.ClassIn, Values: []string{"A"}}}, {{Op: api.ClassNotIn, Values: []string{""}}}, {{Op: api.ClassIn, Values: nine}},
		{{Op: api.Running}, {Op: 8}}, slices.Repeat(api.Scope{{Op: api.Running}}, 9),
	}
}

// P13.1, New: 9 scopes, and one that may not be, wherever it stands.
func TestNewOfWrongScopes(t *testing.T) {
	for _, n := range []int{9, 10, 200} {
		if l, e := local.New(make([]api.Scope, n)); l != nil || e != api.ErrArg {
			t.Errorf("%d scopes: %d", n, e)
		}
	}
	for _, wrong := range wrongScopes() {
		for at := range api.MaxBuckets {
			scopes := make([]api.Scope, api.MaxBuckets)
			scopes[at] = wrong
			for _, some := range [][]api.Scope{scopes, scopes[:at+1], {wrong}, append(scopes, nil)} {
				if l, e := local.New(some); l != nil || e != api.ErrArg {
					t.Errorf("%+v: %d", some, e)
				}
			}
		}
	}
	edge := scopesOf(t, "in:a,"+long24+",b,c,d,e,f,g")
	edge = append(edge, slices.Repeat(api.Scope{{Op: api.Running}}, 8))
	if l, e := local.New(edge); l == nil || e != api.OK || whole(l.Scopes()) != whole(edge) {
		t.Errorf("what just may be: %d", e)
	}
}

// P13.1, Apply: what comes has its charge more, with one of `objects`, in its own space alone.
func TestWhatComes(t *testing.T) {
	l, _ := fresh(t, "all")
	applied(t, l, "a", come(pod("a", "x", "", "cpu=2,mem=3")))
	has(t, l, "a", "cpu=2,mem=3,objects=1")
	applied(t, l, "a", come(pod("a", "y", "high", "cpu=1,disk=7")))
	has(t, l, "a", "cpu=3,disk=7,mem=3,objects=2")
	applied(t, l, "b", come(pod("b", "x", "!", "")))
	has(t, l, "a", "cpu=3,disk=7,mem=3,objects=2")
	has(t, l, "b", "objects=1")
	applied(t, l, "b", come(pod("b", "z", "*", "objects=5,zero=0")))
	has(t, l, "b", "objects=7")
	spaces(t, l, "a b")
}

// P13.1, Apply: what had an object has its charge less; a name of which nothing is left goes, and at last the sum.
func TestWhatGoes(t *testing.T) {
	l, _ := fresh(t, "all")
	x, y := pod("a", "x", "", "cpu=2,mem=3"), pod("a", "y", "high", "cpu=1,disk=7")
	applied(t, l, "a", come(x), come(y))
	applied(t, l, "a", goes(x))
	has(t, l, "a", "cpu=1,disk=7,objects=1")
	applied(t, l, "a", come(x))
	has(t, l, "a", "cpu=3,disk=7,mem=3,objects=2")
	applied(t, l, "a", goes(y))
	has(t, l, "a", "cpu=2,mem=3,objects=1")
	spaces(t, l, "a")
	applied(t, l, "a", goes(x))
	has(t, l, "a", "")
	spaces(t, l, "")
	applied(t, l, "a", come(y))
	has(t, l, "a", "cpu=1,disk=7,objects=1")
	spaces(t, l, "a")
}

// P13.1, Apply: an object that turns into another one: of more, of less, of other resources, of none.
func TestWhatTurns(t *testing.T) {
	l, _ := fresh(t, "all")
	charges := []string{"cpu=2", "cpu=5", "cpu=1", "mem=1", "cpu=1,mem=1", "", "objects=3", "cpu=9223372036854775807"}
	was := pod("a", "x", "", "")
	applied(t, l, "a", come(pod("a", "y", "", "cpu=1")), come(was))
	for _, charge := range charges {
		now := pod("a", "x", "", charge)
		applied(t, l, "a", turns(was, now))
		m := &model{[]api.Scope{nil}, []part{{pod("a", "y", "", "cpu=1"), false}, {now, false}}}
		has(t, l, "a", m.sum("a", 0))
		was = now
	}
}

// P13.1, a sum of each scope: an object counts where the scope matches it, as it was, or as it is.
func TestOfEachScope(t *testing.T) {
	texts := []string{"all", "in:high,low", "notin:high", "class", "noclass", "terminating", "running", "best"}
	classes := []string{"", "high", "low", "mid", "!", "*", "!*", "high!", "low*", "mid!*", "high!*"}
	for _, first := range classes {
		for _, second := range classes {
			l, m := fresh(t, texts...)
			x, y := pod("a", "x", first, "cpu=2"), pod("a", "x", second, "cpu=3")
			for _, d := range []api.Delta{come(x), come(pod("a", "z", "low", "cpu=10")), turns(x, y), goes(y)} {
				do(t, l, m, []api.Delta{d})
				holds(t, l, m)
			}
			has(t, l, "a", "cpu=10,objects=1", "cpu=10,objects=1", "cpu=10,objects=1", "cpu=10,objects=1", "", "", "cpu=10,objects=1", "")
		}
	}
	l, m := fresh(t, "notbest", "class;notbest;running;notin:low", "terminating;running")
	for i, class := range classes {
		do(t, l, m, []api.Delta{come(pod("a", strconv.Itoa(i), class, "cpu=1"))})
	}
	holds(t, l, m)
	has(t, l, "a", "cpu=6,objects=6", "cpu=2,objects=2", "")
}

// P13.1: two scopes that are alike have each a sum of its own.
func TestAlikeScopes(t *testing.T) {
	l, _ := fresh(t, "all", "best", "all", "best")
	applied(t, l, "a", come(pod("a", "x", "*", "cpu=2")), come(pod("a", "y", "", "cpu=1")))
	has(t, l, "a", "cpu=3,objects=2", "cpu=2,objects=1", "cpu=3,objects=2", "cpu=2,objects=1")
}

// P13.1, Apply: an object that goes from one space, and comes in another one.
func TestToAnotherSpace(t *testing.T) {
	l, _ := fresh(t, "all", "best")
	x, y := pod("b", "x", "*", "cpu=2"), pod("a", "x", "*", "cpu=2")
	applied(t, l, "b", come(x))
	applied(t, l, "a b", goes(x), come(y))
	has(t, l, "a", "cpu=2,objects=1", "cpu=2,objects=1")
	has(t, l, "b", "", "")
	spaces(t, l, "a")
	refuses(t, l, api.Delta{Key: y.Key, Had: true, Old: y, Has: true, New: x})
	refuses(t, l, api.Delta{Key: x.Key, Had: true, Old: y, Has: true, New: x})
}

// P13.1, Apply: an object that no scope matches, that none matches any more, and that one matches again.
func TestThatNoScopeMatches(t *testing.T) {
	l, _ := fresh(t, "class", "best")
	x, y := pod("a", "x", "", "cpu=2"), pod("a", "x", "high", "cpu=2")
	applied(t, l, "", come(x))
	has(t, l, "a", "", "")
	spaces(t, l, "")
	applied(t, l, "a", turns(x, y))
	has(t, l, "a", "cpu=2,objects=1", "")
	spaces(t, l, "a")
	applied(t, l, "a", turns(y, x))
	has(t, l, "a", "", "")
	spaces(t, l, "")
	applied(t, l, "", turns(x, pod("a", "x", "!", "cpu=7,mem=1")))
	applied(t, l, "", goes(pod("a", "x", "!", "cpu=7,mem=1")))
	spaces(t, l, "")
}

// P13.1, Apply: a space is told where any of its sums is another one, be it but that of the last scope, or of one name.
func TestWhichSpacesAreTold(t *testing.T) {
	l, _ := fresh(t, "all", "class", "terminating")
	x := pod("a", "x", "high", "cpu=2,mem=0")
	applied(t, l, "a", come(x))
	for i, now := range []api.Object{
		with(x, func(o *api.Object) { o.Version = 7 }),
		with(x, func(o *api.Object) { o.Class = "low" }),
		with(x, func(o *api.Object) { o.Best = true }),
		with(x, func(o *api.Object) { o.Charge = o.Charge[:1] }),
		with(x, func(o *api.Object) { o.Charge[1].Name = "zero" }),
	} {
		applied(t, l, "", turns(x, now))
		applied(t, l, "", turns(now, x))
		has(t, l, "a", "cpu=2,objects=1", "cpu=2,objects=1", "")
		if t.Failed() {
			t.Fatal(i)
		}
	}
	last := with(x, func(o *api.Object) { o.Terminating = true })
	applied(t, l, "a", turns(x, last))
	has(t, l, "a", "cpu=2,objects=1", "cpu=2,objects=1", "cpu=2,objects=1")
	none := with(last, func(o *api.Object) { o.Class = "" })
	applied(t, l, "a", turns(last, none))
	has(t, l, "a", "cpu=2,objects=1", "", "cpu=2,objects=1")
	more := with(none, func(o *api.Object) { o.Charge[1].N = 1 })
	applied(t, l, "a", turns(none, more))
	has(t, l, "a", "cpu=2,mem=1,objects=1", "", "cpu=2,mem=1,objects=1")
}

// P13.1, Apply: what is told is what is another one than ahead of all deltas, not of each.
func TestToldOfAllDeltas(t *testing.T) {
	l, _ := fresh(t, "all", "best")
	x, y, z := pod("a", "x", "", "cpu=2"), pod("a", "x", "*", "cpu=2"), pod("a", "z", "", "cpu=2")
	applied(t, l, "", come(x), goes(x))
	applied(t, l, "", goes(x), come(x))
	spaces(t, l, "")
	applied(t, l, "a", come(x), turns(x, y))
	has(t, l, "a", "cpu=2,objects=1", "cpu=2,objects=1")
	applied(t, l, "", turns(y, x), turns(x, y))
	applied(t, l, "", goes(y), come(x), turns(x, y))
	applied(t, l, "", come(z), turns(y, x), goes(x), come(y), goes(z))
	applied(t, l, "a", goes(y), come(z))
	has(t, l, "a", "cpu=2,objects=1", "")
	applied(t, l, "", goes(z), come(x))
	has(t, l, "a", "cpu=2,objects=1", "")
	w := pod("b", "w", "", "")
	applied(t, l, "b", goes(x), come(w), come(z))
	has(t, l, "a", "cpu=2,objects=1", "")
	has(t, l, "b", "objects=1", "")
}

// P13.1: spaces rise byte by byte, and come once, however often they are told of.
func TestSpacesRise(t *testing.T) {
	l, _ := fresh(t, "all", "all")
	names := []string{"b", "a0", "a", "z", "a-b", "0", "root", long24, "a", "b", "aa", "10", "9", "z"}
	var d []api.Delta
	for i, space := range names {
		d = append(d, come(pod(space, strconv.Itoa(i), "", "")))
	}
	want := "0 10 9 a a-b a0 aa " + long24 + " b root z"
	applied(t, l, want, d...)
	spaces(t, l, want)
	applied(t, l, "a a-b root", come(pod("root", "x", "", "")), come(pod("a-b", "x", "", "")), come(pod("a", "x", "", "")), come(pod("a", "y", "", "")))
	spaces(t, l, want)
}

// P13.1, Apply: deltas of none, or that tell of none, change nothing, and tell of nothing; of these no key is asked.
func TestDeltasOfNone(t *testing.T) {
	x := pod("a", "x", "", "cpu=2")
	l, _ := fresh(t, "all")
	for range 2 {
		was := look(l)
		for _, none := range [][]api.Delta{nil, {}, []api.Delta{come(x)}[:0], {{}}, {{Key: x.Key}}, {{Key: api.Key{Space: "-"}}, {}}, {{Key: x.Key, Old: x, New: x}}, {{Old: api.Object{Version: -1}, New: api.Object{Class: "-"}}}} {
			applied(t, l, "", none...)
		}
		if is := look(l); is != was {
			t.Errorf("nothing changes\n%s to\n%s", was, is)
		}
		applied(t, l, "a", come(x))
	}
}

// P13.1, Apply: of an object that a delta tells not to have been, or not to be, nothing counts.
func TestWhatIsNotThereCountsNot(t *testing.T) {
	l, _ := fresh(t, "all")
	x := pod("a", "x", "", "cpu=2")
	for i, wrong := range append(wrongObjects(), pod("a", "x", "", "cpu=7"), pod("b", "y", "", "cpu=7")) {
		applied(t, l, "a", api.Delta{Key: x.Key, Has: true, New: x, Old: wrong})
		has(t, l, "a", "cpu=2,objects=1")
		applied(t, l, "a", api.Delta{Key: x.Key, Had: true, Old: x, New: wrong})
		has(t, l, "a", "")
		applied(t, l, "", api.Delta{Key: x.Key, Old: wrong, New: wrong}, api.Delta{Key: wrong.Key, Old: wrong, New: x})
		spaces(t, l, "")
		if t.Failed() {
			t.Fatal(i)
		}
	}
}

// charged are so many resources whose names rise.
func charged(count int) []api.Resource {
	var l []api.Resource
	for i := range count {
		l = append(l, api.Resource{Name: "r" + strconv.Itoa(100+i), N: 1})
	}
	return l
}

// wrongObjects may not be.
func wrongObjects() []api.Object {
	x := pod("a", "x", "", "cpu=1,mem=2")
	return []api.Object{
		{}, {Key: x.Key},
		with(x, func(o *api.Object) { o.Key = api.Key{} }),
		with(x, func(o *api.Object) { o.Key.Space = "" }),
		with(x, func(o *api.Object) { o.Key.Kind = "Pod" }),
		with(x, func(o *api.Object) { o.Key.Name = long24 + "y" }),
		with(x, func(o *api.Object) { o.Key.Name = "x/y" }),
		with(x, func(o *api.Object) { o.Version = 0 }),
		with(x, func(o *api.Object) { o.Version = math.MinInt64 }),
		with(x, func(o *api.Object) { o.Class = "-" }),
		with(x, func(o *api.Object) { o.Class = "High" }),
		with(x, func(o *api.Object) { o.Charge = charged(17) }),
		with(x, func(o *api.Object) { o.Charge[0].N = -1 }),
		with(x, func(o *api.Object) { o.Charge[1].N = math.MinInt64 }),
		with(x, func(o *api.Object) { o.Charge[0].Name = "" }),
		with(x, func(o *api.Object) { o.Charge[0].Name = "z" }),
		with(x, func(o *api.Object) { o.Charge[1].Name = "cpu" }),
		with(x, func(o *api.Object) { o.Charge[1].Name = "\xff" }),
	}
}

// wrongDeltas may not be: an object that may not be, or that is another key's, came, went, or is one of two.
func wrongDeltas() []api.Delta {
	x := pod("a", "x", "", "cpu=2")
	var l []api.Delta
	for _, wrong := range wrongObjects() {
		l = append(l, come(wrong), goes(wrong), api.Delta{Key: x.Key, Has: true, New: wrong})
		for _, d := range []api.Delta{turns(x, wrong), turns(wrong, x)} {
			l = append(l, d)
			d.Key = x.Key
			l = append(l, d)
		}
	}
	for _, k := range []api.Key{{}, {Space: "b", Kind: "pod", Name: "x"}, {Space: "a", Kind: "job", Name: "x"}, {Space: "a", Kind: "pod", Name: "y"}, {Space: "pod", Kind: "a", Name: "x"}} {
		y := with(x, func(o *api.Object) { o.Key = k })
		l = append(l, api.Delta{Key: k, Has: true, New: x}, api.Delta{Key: k, Had: true, Old: x}, api.Delta{Key: k, Had: true, Old: x, Has: true, New: x})
		l = append(l, turns(x, y), turns(y, x))
	}
	return l
}

// P13.1, Apply: one delta that is wrong, be it the first of many or the last, and whatever scopes there are: then nothing is changed.
func TestWrongDeltas(t *testing.T) {
	for _, texts := range [][]string{nil, {"all"}, {"class", "best"}, {"all", "best", "in:high"}} {
		l, m := fresh(t, texts...)
		do(t, l, m, []api.Delta{come(pod("a", "x", "high*", "cpu=2")), come(pod("b", "y", "", "cpu=1"))})
		right := []api.Delta{come(pod("a", "w", "high", "cpu=5")), goes(pod("b", "y", "", "cpu=1")), come(pod("c", "z", "*", "mem=1"))}
		for _, wrong := range wrongDeltas() {
			refuses(t, l, wrong)
			for at := range len(right) + 1 {
				refuses(t, l, slices.Insert(slices.Clone(right), at, wrong)...)
			}
			refuses(t, l, wrong, wrong)
		}
		holds(t, l, m)
		do(t, l, m, right)
		holds(t, l, m)
	}
}

// P13.1: without scopes there are no sums, but what may not be is refused all the same.
func TestNoScopes(t *testing.T) {
	l, _ := fresh(t)
	x := pod("a", "x", "high!*", "cpu=2")
	applied(t, l, "", come(x), come(pod("b", "y", "", "")), turns(x, x))
	loaded(t, l, x, pod("b", "y", "", ""))
	for _, wrong := range wrongObjects() {
		refuses(t, l, come(wrong))
		refusesLoad(t, l, x, wrong)
	}
	spaces(t, l, "")
	has(t, l, "a", "", "")
}

// P13.1: what goes and never came makes a sum of less than nothing, which is a sum, till it came.
func TestLessThanNothing(t *testing.T) {
	l, _ := fresh(t, "all", "class")
	x, y := pod("a", "x", "", "cpu=2,mem=5"), pod("a", "y", "low", "cpu=2")
	applied(t, l, "a", goes(x))
	has(t, l, "a", "cpu=-2,mem=-5,objects=-1", "")
	spaces(t, l, "a")
	applied(t, l, "a", come(y))
	has(t, l, "a", "mem=-5", "cpu=2,objects=1")
	applied(t, l, "a", goes(y), goes(y))
	has(t, l, "a", "cpu=-4,mem=-5,objects=-2", "cpu=-2,objects=-1")
	applied(t, l, "a", come(x), come(y))
	spaces(t, l, "")
	has(t, l, "a", "", "")
}

// P13.1, T5: sums that fit into 64 bits no more do not wrap round, on either side, and come back.
func TestSumsOfMoreThan64Bits(t *testing.T) {
	l, _ := fresh(t, "all")
	const most = "cpu=9223372036854775807"
	want := []string{"cpu=9223372036854775807,objects=1", "cpu=18446744073709551614,objects=2", "cpu=27670116110564327421,objects=3", "cpu=36893488147419103228,objects=4"}
	for i, sum := range want {
		applied(t, l, "a", come(pod("a", strconv.Itoa(i), "", most)))
		has(t, l, "a", sum)
		if v := l.Sum("a", 0); vector.Fits(v) != (i == 0) {
			t.Errorf("%d: %v", i, v)
		}
	}
	for i := len(want) - 1; i > 0; i-- {
		applied(t, l, "a", goes(pod("a", strconv.Itoa(i), "", most)))
		has(t, l, "a", want[i-1])
	}
	applied(t, l, "a", goes(pod("a", "0", "", most)), goes(pod("a", "1", "", most)))
	has(t, l, "a", "cpu=-9223372036854775807,objects=-1")
	applied(t, l, "a", goes(pod("a", "x", "", "cpu=2")))
	has(t, l, "a", "cpu=-9223372036854775809,objects=-2")
	applied(t, l, "a", goes(pod("a", "x", "", most)), goes(pod("a", "x", "", most)))
	has(t, l, "a", "cpu=-27670116110564327423,objects=-4")
	loaded(t, l, pod("a", "x", "", most+",objects=9223372036854775807"), pod("a", "y", "", "cpu=1"))
	has(t, l, "a", "cpu=9223372036854775808,objects=9223372036854775809")
	applied(t, l, "a", come(pod("a", "z", "", most)), come(pod("a", "z", "", "cpu=1")))
	has(t, l, "a", "cpu=18446744073709551616,objects=9223372036854775811")
}

// P13.1: an object may have 16 resources, beside `objects`; a sum has as many names as there are.
func TestManyNames(t *testing.T) {
	l, m := fresh(t, "all", "class")
	all := charged(100)
	var d []api.Delta
	for i := range 100 - 15 {
		o := pod("a", strconv.Itoa(i), []string{"", "high"}[i%2], "")
		o.Charge = all[i : i+16]
		d = append(d, come(o))
	}
	do(t, l, m, d)
	holds(t, l, m)
	if n := len(l.Sum("a", 0)); n != 101 {
		t.Errorf("%d names", n)
	}
	for i := range d {
		d[i] = goes(d[i].New)
	}
	do(t, l, m, d[:50])
	holds(t, l, m)
	do(t, l, m, d[50:])
	spaces(t, l, "")
}

// P13.1: what just may be, of each part of an object, counts as any other.
func TestWhatJustMayBe(t *testing.T) {
	l, m := fresh(t, "in:"+long24, "all")
	x := pod(long24, long24, "!*", "")
	x.Key.Kind, x.Class, x.Version, x.Charge = long24, long24, math.MaxInt64, charged(16)
	x.Charge[0].N, x.Charge[15].N = math.MaxInt64, 0
	y := with(x, func(o *api.Object) { o.Key = api.Key{Space: "0", Kind: "0", Name: "a-0"} })
	for _, d := range [][]api.Delta{{come(x), come(y)}, {turns(x, x)}, {goes(x)}, {come(x), goes(y)}} {
		if e := do(t, l, m, d); e != api.OK {
			t.Errorf("%+v: %d", d, e)
		}
		holds(t, l, m)
	}
	loaded(t, l, x, y)
	spaces(t, l, "0 "+long24)
}

// P13.1, Load: the sums are those of these objects alone, whatever was there; deltas go on from them.
func TestLoad(t *testing.T) {
	l, m := fresh(t, "all", "best")
	x, y, z := pod("a", "x", "*", "cpu=2"), pod("b", "y", "", "cpu=1"), pod("a", "z", "low", "mem=7")
	for _, objects := range [][]api.Object{{x, y}, {y, x}, {z}, {x, y, z}, {x, x}, nil, {y}, {}, {z, x}, {z, x}} {
		loaded(t, l, objects...)
		m.load(objects)
		holds(t, l, m)
	}
	has(t, l, "a", "cpu=2,mem=7,objects=2", "cpu=2,objects=1")
	spaces(t, l, "a")
	do(t, l, m, []api.Delta{goes(x), come(y), turns(z, with(z, func(o *api.Object) { o.Best = true }))})
	holds(t, l, m)
	has(t, l, "a", "mem=7,objects=1", "mem=7,objects=1")
	has(t, l, "b", "cpu=1,objects=1", "")
	applied(t, l, "c", goes(pod("c", "w", "", "cpu=1")))
	loaded(t, l)
	spaces(t, l, "")
	has(t, l, "c", "", "")
}

// P13.1, Load: an object that may not be, wherever it stands: then nothing is changed.
func TestLoadOfWhatMayNotBe(t *testing.T) {
	x, y := pod("a", "x", "*", "cpu=2"), pod("b", "y", "", "cpu=1")
	for range 2 {
		l, _ := fresh(t, "best", "all")
		for _, there := range [][]api.Object{nil, {y}, {x, y, x}} {
			loaded(t, l, there...)
			for _, wrong := range wrongObjects() {
				refusesLoad(t, l, wrong)
				refusesLoad(t, l, wrong, x)
				refusesLoad(t, l, x, wrong, y)
				refusesLoad(t, l, y, x, wrong)
			}
		}
		has(t, l, "a", "cpu=4,objects=2", "cpu=4,objects=2")
	}
}

// P13.1, Load: of each object of a list, be there more than a cache has, and more than one of a key.
func TestLoadOfMany(t *testing.T) {
	l, _ := fresh(t, "all", "best")
	var objects []api.Object
	for i := range 3000 {
		objects = append(objects, pod([]string{"a", "b", "c"}[i%3], strconv.Itoa(i%1500), []string{"", "*"}[i%2], "cpu="+strconv.Itoa(i)))
	}
	loaded(t, l, objects...)
	has(t, l, "a", "cpu=1498500,objects=1000", "cpu=750000,objects=500")
	has(t, l, "b", "cpu=1499500,objects=1000", "cpu=749000,objects=500")
	has(t, l, "c", "cpu=1500500,objects=1000", "cpu=751000,objects=500")
	spaces(t, l, "a b c")
	loaded(t, l, objects[1])
	has(t, l, "b", "cpu=1,objects=1", "cpu=1,objects=1")
	spaces(t, l, "b")
}

// P13.1, Sum: nothing of a space that has none, be it a label or not, and of a number that no scope has.
func TestSumOfNone(t *testing.T) {
	l, _ := fresh(t, "all", "best")
	applied(t, l, "a root", come(pod("a", "x", "*", "cpu=2")), come(pod("root", "x", "", "")))
	for _, space := range []string{"", "b", "A", "a ", " a", "a/pod/x", "a\x00", "-", "objects", "\xff", strings.Repeat("a", 1<<16)} {
		for _, i := range []int{-1, 0, 1, 2} {
			if v := l.Sum(space, i); len(v) != 0 {
				t.Errorf("%.50q, %d: %v", space, i, v)
			}
		}
	}
	for _, space := range []string{"a", "root", "b", ""} {
		for _, i := range []int{-1, 2, 3, 7, 8, 1 << 32, math.MinInt, math.MaxInt, math.MinInt64 + 1, -1 << 32} {
			if v := l.Sum(space, i); len(v) != 0 {
				t.Errorf("%q, %d: %v", space, i, v)
			}
		}
	}
	has(t, l, "root", "objects=1", "")
	spaces(t, l, "a root")
}

// P13.1: on nil sums ErrArg, and nothing, whatever is handed in.
func TestNil(t *testing.T) {
	var none *local.Local
	x := pod("a", "x", "", "")
	for _, d := range append([][]api.Delta{nil, {}, {{}}, {come(x)}}, wrongDeltas()) {
		if got, e := none.Apply(d); e != api.ErrArg || len(got) != 0 {
			t.Errorf("Apply: %q %d", got, e)
		}
	}
	for _, o := range append([][]api.Object{nil, {}, {x}}, wrongObjects()) {
		if e := none.Load(o); e != api.ErrArg {
			t.Errorf("Load: %d", e)
		}
	}
	for _, i := range []int{-1, 0, 1, math.MaxInt} {
		if v := none.Sum("a", i); len(v) != 0 {
			t.Errorf("Sum: %v", v)
		}
	}
	if len(none.Spaces()) != 0 || len(none.Scopes()) != 0 {
		t.Error("a nil one has something")
	}
}
