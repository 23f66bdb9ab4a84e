package local_test

import (
	"fmt"
	"math"
	"math/rand"
	"slices"
	"strconv"
	"strings"
	"testing"

	"scutage/api"
	"scutage/cache"
	"scutage/event"
	"scutage/local"
	"scutage/scope"
	"scutage/store"
)

// smallDeltas are all of a small world: two keys, in two spaces whose order is another one with what stands behind, each of two objects, and such as may not be.
func smallDeltas() []api.Delta {
	var l []api.Delta
	for _, space := range []string{"a", "a-b"} {
		x, y := pod(space, "x", "*", "cpu=1"), pod(space, "x", "", "cpu=1,mem=9223372036854775807")
		l = append(l, come(x), come(y), goes(x), goes(y), turns(x, y), turns(y, x))
	}
	return append(l, api.Delta{}, come(pod("b", "x", "*!", "mem=0")), come(pod("A", "x", "", "")), turns(pod("a", "x", "", ""), pod("a-b", "x", "", "")))
}

// P13.1: all lists of up to three deltas of a small world, told one by one, and all at once.
func TestAllShortLists(t *testing.T) {
	deltas := smallDeltas()
	texts := []string{"all", "best", "notbest;running"}
	var more func(path []api.Delta)
	more = func(path []api.Delta) {
		l, m := fresh(t, texts...)
		for _, d := range path {
			do(t, l, m, []api.Delta{d})
		}
		holds(t, l, m)
		l, m = fresh(t, texts...)
		do(t, l, m, path)
		holds(t, l, m)
		if len(path) == 3 {
			return
		}
		for _, d := range deltas {
			more(append(slices.Clone(path), d))
		}
	}
	more(nil)
}

// someScopes are up to 8 scopes that are drawn.
func someScopes(t *testing.T, r *rand.Rand) []string {
	texts := []string{"all", "class", "noclass", "terminating", "running", "best", "notbest", "in:high", "in:high,low;running", "notin:low", "best;class;running", "in:low;notin:low"}
	r.Shuffle(len(texts), func(i, j int) { texts[i], texts[j] = texts[j], texts[i] })
	return texts[:r.Intn(api.MaxBuckets+1)]
}

// drawnOf is an object of a key.
func drawnOf(r *rand.Rand, k api.Key) api.Object {
	o := api.Object{Key: k, Version: 1 + r.Int63n(9), Terminating: r.Intn(3) == 0, Best: r.Intn(2) == 0, Class: []string{"", "high", "low"}[r.Intn(3)]}
	for i := range r.Intn(4) {
		n := []int64{0, 1, r.Int63n(100), math.MaxInt64, math.MaxInt64 - r.Int63n(3)}[r.Intn(5)]
		o.Charge = append(o.Charge, api.Resource{Name: "r" + strconv.Itoa(2*i+r.Intn(2)), N: n})
	}
	return o
}

// someKeys are so many, of some spaces.
func someKeys(count int) []api.Key {
	var l []api.Key
	for i := range count {
		l = append(l, api.Key{Space: []string{"a", "a-b", "a0", "root"}[i%4], Kind: "pod", Name: strconv.Itoa(i / 4)})
	}
	return l
}

// drawn are some deltas; now and then one of them may not be.
func drawn(r *rand.Rand, keys []api.Key) []api.Delta {
	var l []api.Delta
	for range r.Intn(5) {
		k := keys[r.Intn(len(keys))]
		d := api.Delta{Key: k, Had: r.Intn(2) == 0, Has: r.Intn(2) == 0, Old: drawnOf(r, k), New: drawnOf(r, k)}
		switch r.Intn(20) {
		case 0:
			d.Old.Version = 0
		case 1:
			d.New.Class = "-"
		case 2:
			d.Key.Name = "other"
		case 3:
			d.New = d.Old
		}
		l = append(l, d)
	}
	return l
}

// P13.1, of long lists of deltas, with Loads between.
func TestLongLists(t *testing.T) {
	r := rand.New(rand.NewSource(13))
	answers := map[api.Errno]int{}
	for round := range 120 {
		keys := someKeys(1 + round%9)
		l, m := fresh(t, someScopes(t, r)...)
		for range 40 {
			answers[do(t, l, m, drawn(r, keys))]++
			if r.Intn(15) == 0 {
				objects := []api.Object{drawnOf(r, keys[0]), drawnOf(r, keys[r.Intn(len(keys))]), drawnOf(r, keys[0])}
				objects = objects[:r.Intn(4)]
				if got, want := l.Load(objects), m.load(objects); got != want {
					t.Fatalf("Load: %d, not %d", got, want)
				}
			}
			holds(t, l, m)
		}
	}
	if answers[api.OK] < 2000 || answers[api.ErrArg] < 300 {
		t.Errorf("%v", answers)
	}
}

// isOf tells whether sums are those of these objects, as they are told anew, and as the model has them.
func isOf(t *testing.T, l *local.Local, objects []api.Object) {
	t.Helper()
	m := &model{scopes: l.Scopes()}
	m.load(objects)
	holds(t, l, m)
	anew, e := local.New(l.Scopes())
	if e != api.OK {
		t.Fatal(e)
	}
	loaded(t, anew, objects...)
	if look(anew) != look(l) {
		t.Fatalf("%s, not\n%s", look(l), look(anew))
	}
}

// tell tells a cache an event, and sums its deltas; each space that is told must have another sum, and each that is not the same.
func tell(t *testing.T, c *cache.Cache, l *local.Local, e api.Event) []api.Delta {
	t.Helper()
	was := sumsOf(l, c.Objects())
	d, err := c.Apply(e)
	if err != api.OK && len(d) != 0 {
		t.Fatalf("%d deltas, and %d", len(d), err)
	}
	got, err := l.Apply(d)
	if err != api.OK || !slices.IsSorted(got) {
		t.Fatalf("%+v: %q %d", d, got, err)
	}
	is := sumsOf(l, append(c.Objects(), e.Objects...))
	for space, sums := range is {
		if told := slices.Contains(got, space); told == (was[space] == sums || was[space] == "" && strings.Trim(sums, ";") == "") {
			t.Fatalf("%q of %+v: %q was %q, is %q", got, d, space, was[space], sums)
		}
	}
	return d
}

// sumsOf are the sums of the spaces that have any, and of those of these objects, as texts.
func sumsOf(l *local.Local, objects []api.Object) map[string]string {
	spaces := l.Spaces()
	for _, o := range objects {
		spaces = append(spaces, o.Key.Space)
	}
	all := map[string]string{}
	for _, space := range spaces {
		var sums []string
		for i := range l.Scopes() {
			sums = append(sums, told(l.Sum(space, i)))
		}
		all[space] = strings.Join(sums, ";")
	}
	return all
}

// watched are events of a store of some keys: some of its log, some of them late or twice, with relists and bookmarks of then, or of old.
func watched(r *rand.Rand, keys []api.Key, writes int) []api.Event {
	s := store.New()
	var l, lists []api.Event
	for range writes {
		if r.Intn(3) > 0 {
			s.Put(drawnOf(r, keys[r.Intn(len(keys))]))
		} else {
			s.Delete(keys[r.Intn(len(keys))])
		}
		log := s.Log()
		for range r.Intn(3) {
			if len(log) > 0 {
				l = append(l, log[max(0, len(log)-1-r.Intn(4))])
			}
		}
		switch r.Intn(8) {
		case 0:
			lists = append(lists, s.Snapshot())
		case 1:
			l = append(l, api.Event{Kind: api.Bookmark, Version: s.Version()})
		case 2:
			if len(lists) > 0 {
				l = append(l, lists[r.Intn(len(lists))])
			}
		}
	}
	return l
}

// P13.2: told all deltas of a cache, as they come, or all at once, the sums are those of its objects.
func TestOfACache(t *testing.T) {
	r := rand.New(rand.NewSource(132))
	kinds := map[api.Kind]int{}
	for round := range 60 {
		texts := someScopes(t, r)
		l, _ := fresh(t, texts...)
		late, _ := fresh(t, texts...)
		c := cache.New()
		var all []api.Delta
		for _, e := range watched(r, someKeys(1+round%16), 60) {
			d := tell(t, c, l, e)
			isOf(t, l, c.Objects())
			if len(d) > 0 {
				kinds[e.Kind]++
			}
			all = append(all, d...)
		}
		told, e := late.Apply(all)
		if e != api.OK || !slices.Equal(told, late.Spaces()) || look(late) != look(l) {
			t.Fatalf("all at once: %q %d\n%s, not\n%s", told, e, look(late), look(l))
		}
	}
	if kinds[api.Put] < 500 || kinds[api.Delete] < 100 || kinds[api.Relist] < 30 {
		t.Errorf("%v", kinds)
	}
}

// P13.2, of a cache that is full, whose objects are then others, by one relist, and then none.
func TestOfAFullCache(t *testing.T) {
	r := rand.New(rand.NewSource(1000))
	keys := someKeys(2 * api.MaxObjects)
	l, _ := fresh(t, "all", "best;class", "notin:high")
	c := cache.New()
	for at, some := range [][]api.Key{keys[:1000], keys[500:1500], keys[1000:], keys[:1000], nil} {
		e := api.Event{Kind: api.Relist, Version: int64(10 * (at + 1))}
		for _, k := range some {
			o := drawnOf(r, k)
			o.Version += int64(10 * at)
			e.Objects = append(e.Objects, o)
		}
		e.Objects = event.Sorted(e.Objects)
		if d := tell(t, c, l, e); len(d) < 1000 {
			t.Fatalf("%d deltas", len(d))
		}
		isOf(t, l, c.Objects())
	}
	spaces(t, l, "")
}

// P13.1: sums hang neither on the order of deltas, nor on how many come at once.
func TestWhateverOrder(t *testing.T) {
	r := rand.New(rand.NewSource(5))
	for range 100 {
		keys := someKeys(8)
		var d []api.Delta
		for range 10 {
			d = append(d, slices.DeleteFunc(drawn(r, keys), func(x api.Delta) bool { return x.Old.Version == 0 || x.New.Class == "-" || x.Key.Name == "other" })...)
		}
		texts := someScopes(t, r)
		l, _ := fresh(t, texts...)
		if _, e := l.Apply(d); e != api.OK {
			t.Fatal(e)
		}
		r.Shuffle(len(d), func(i, j int) { d[i], d[j] = d[j], d[i] })
		again, _ := fresh(t, texts...)
		for len(d) > 0 {
			n := 1 + r.Intn(len(d))
			if _, e := again.Apply(d[:n]); e != api.OK {
				t.Fatal(e)
			}
			d = d[n:]
		}
		if look(l) != look(again) {
			t.Fatalf("%s, and\n%s", look(l), look(again))
		}
	}
}

// P2: two of the same calls tell the same, whatever a third one is called between, and however often they are asked.
func TestTheSameOfTheSame(t *testing.T) {
	for seed := range int64(40) {
		r := rand.New(rand.NewSource(seed))
		keys, texts := someKeys(40), someScopes(t, r)
		a, _ := fresh(t, texts...)
		b, _ := fresh(t, texts...)
		other, _ := fresh(t, someScopes(t, r)...)
		for range 30 {
			d := slices.Concat(drawn(r, keys), drawn(r, keys))
			told, err := a.Apply(d)
			other.Apply(drawn(r, keys))
			other.Load([]api.Object{drawnOf(r, keys[0])})
			look(a)
			if again, e := b.Apply(d); e != err || !slices.Equal(told, again) || look(a) != look(b) {
				t.Fatalf("%q %d\n%s\nand %q %d\n%s", told, err, look(a), again, e, look(b))
			}
		}
	}
}

// scribble writes into all that a list has, and behind it.
func scribble[T any](l []T, with T) {
	for i := range l {
		l[i] = with
	}
	_ = append(l, with)
}

func scribbleResources(l []api.Resource) { scribble(l, api.Resource{Name: "changed", N: -7}) }

func scribbleDeltas(l []api.Delta) {
	for _, d := range l {
		scribbleResources(d.Old.Charge)
		scribbleResources(d.New.Charge)
	}
	scribble(l, api.Delta{Has: true})
}

func scribbleObjects(l []api.Object) {
	for _, o := range l {
		scribbleResources(o.Charge)
	}
	scribble(l, api.Object{Version: -1})
}

func scribbleScopes(l []api.Scope) {
	for _, s := range l {
		for _, term := range s {
			scribble(term.Values, "changed")
		}
		scribble(s, api.Term{Op: -1})
	}
	scribble(l, api.Scope{{Op: -1}})
}

// scribbleAll writes into all that sums hand out.
func scribbleAll(l *local.Local) {
	for _, space := range append(beside(), l.Spaces()...) {
		for i := range l.Scopes() {
			scribble(l.Sum(space, i), api.Entry{Name: "changed", N: api.Wide{Hi: 7}})
		}
	}
	scribble(l.Spaces(), "changed")
	scribbleScopes(l.Scopes())
}

// Rule 4: what was handed in, and what was handed back, is the caller's, who may change it.
func TestWhatTheCallerChanges(t *testing.T) {
	r := rand.New(rand.NewSource(7))
	for round := range 40 {
		keys := someKeys(1 + round%9)
		texts := someScopes(t, r)
		scopes, m := scopesOf(t, texts...), &model{scopes: scopesOf(t, texts...)}
		l, e := local.New(scopes)
		if e != api.OK {
			t.Fatal(e)
		}
		scribbleScopes(scopes)
		for range 20 {
			d := drawn(r, keys)
			m.apply(d)
			told, _ := l.Apply(d)
			scribble(told, "changed")
			scribbleDeltas(d)
			scribbleAll(l)
			holds(t, l, m)
			if r.Intn(8) == 0 {
				objects := []api.Object{drawnOf(r, keys[0]), drawnOf(r, keys[len(keys)-1])}
				m.load(objects)
				loaded(t, l, objects...)
				scribbleObjects(objects)
				holds(t, l, m)
			}
		}
	}
}

// Rule 4: what is handed in is not written into, and what lies behind its lists is neither read nor written.
func TestWhatLiesBehind(t *testing.T) {
	values := []string{"high", "low", "-", ""}
	terms := api.Scope{{Op: api.ClassIn, Values: values[:2]}, {Op: 8}, {Op: -1}}
	scopes := append(slices.Repeat([]api.Scope{terms[:1]}, 8), terms, nil)
	l, e := local.New(scopes[:8])
	if e != api.OK {
		t.Fatal(e)
	}
	scribbleScopes(l.Scopes())
	charge := []api.Resource{{Name: "cpu", N: 2}, {Name: "b", N: -1}, {Name: "", N: 5}}
	x := pod("a", "x", "low", "")
	x.Charge = charge[:1]
	d := []api.Delta{turns(x, x), come(x), come(api.Object{}), goes(x)}
	objects := []api.Object{x, {}, x}
	was := whole(scopes) + whole(values) + whole(charge) + whole(d) + whole(objects)
	applied(t, l, "a", d[:2]...)
	has(t, l, "a", slices.Repeat([]string{"cpu=2,objects=1"}, 8)...)
	loaded(t, l, objects[:1]...)
	has(t, l, "a", slices.Repeat([]string{"cpu=2,objects=1"}, 8)...)
	scribbleAll(l)
	if is := whole(scopes) + whole(values) + whole(charge) + whole(d) + whole(objects); is != was {
		t.Errorf("written into:\n%s, was\n%s", is, was)
	}
}

// Rule 4: no two lists of one answer are one, though they were one when they came; nor is an answer one with another one, or what was answered ahead of what happens.
func TestListsOfTheirOwn(t *testing.T) {
	values := []string{"high"}
	terms := api.Scope{{Op: api.ClassIn, Values: values}, {Op: api.ClassIn, Values: values}}
	l, e := local.New([]api.Scope{terms, terms})
	if e != api.OK {
		t.Fatal(e)
	}
	const want = "in:high;in:high"
	mine := l.Scopes()
	mine[0][0].Values[0] = "changed"
	if got := scope.Text(api.Scope{mine[0][1]}) + " " + scope.Text(mine[1]); got != "in:high "+want {
		t.Errorf("shared: %s", got)
	}
	mine[1][0].Op = api.Running
	if again := l.Scopes(); scope.Text(again[0]) != want || scope.Text(again[1]) != want || terms[0].Op != api.ClassIn || values[0] != "high" {
		t.Errorf("%+v", again)
	}
	applied(t, l, "a", come(pod("a", "x", "high", "cpu=2")))
	first, second, old := l.Sum("a", 0), l.Sum("a", 1), l.Sum("a", 0)
	scribble(first, api.Entry{})
	if told(second) != "cpu=2,objects=1" || told(old) != "cpu=2,objects=1" {
		t.Errorf("shared: %s %s", told(second), told(old))
	}
	spaces := l.Spaces()
	applied(t, l, "a b", come(pod("b", "x", "high", "")), come(pod("a", "y", "high", "cpu=1")))
	loaded(t, l)
	if told(old) != "cpu=2,objects=1" || told(second) != "cpu=2,objects=1" || !slices.Equal(spaces, []string{"a"}) {
		t.Errorf("what was answered changes: %s %s %q", told(old), told(second), spaces)
	}
}

// P1: every call ends, and none panics, of whatever is handed in.
func TestAnyArguments(t *testing.T) {
	long := strings.Repeat("\x00a/", 1<<16)
	for _, texts := range [][]string{nil, {"all"}, {"all", "class", "in:high", "best", "all", "noclass", "running", "terminating"}} {
		l, _ := fresh(t, texts...)
		d := append(wrongDeltas(), come(pod("a", "x", "high!*", "cpu=1")), api.Delta{Key: api.Key{Space: long}, Has: true, New: api.Object{Key: api.Key{Space: long}, Version: 1}})
		for i := range d {
			l.Apply(d[i:])
			l.Apply(d[i : i+1])
			l.Load([]api.Object{d[i].Old, d[i].New})
			l.Load([]api.Object{d[i].New})
			l.Sum(d[i].Key.Space, i-7)
		}
		l.Sum(long, math.MinInt)
		l.Apply(make([]api.Delta, 1<<12))
		l.Load(make([]api.Object, 1<<12))
		l.Spaces()
		l.Scopes()
	}
	for _, s := range wrongScopes() {
		for n := range 12 {
			if l, e := local.New(slices.Repeat([]api.Scope{s}, n)); (l == nil) != (e != api.OK) {
				t.Errorf("%d of %s: %d", n, fmt.Sprint(s), e)
			}
		}
	}
}
