package cache_test

import (
	"math/rand"
	"slices"
	"strconv"
	"testing"

	"scutage/api"
	"scutage/cache"
	"scutage/event"
)

// small are the keys of a small world; their order by parts is another one than by texts.
func small() []api.Key { return []api.Key{key("a-b", "p", "z"), key("a", "p", "x")} }

// smallObjects are the objects that a key may have in a small world.
func smallObjects(k api.Key) []api.Object {
	var l []api.Object
	for n := int64(1); n <= 3; n++ {
		l = append(l, api.Object{Key: k, Version: n}, api.Object{Key: k, Version: n, Charge: []api.Resource{res("cpu", n)}})
	}
	return l
}

// smallEvents are all of a small world that may be, and some that may not.
func smallEvents() []api.Event {
	l := []api.Event{mark(-1), relist(-1), {Kind: 4}, {}}
	lists := [][]api.Object{nil}
	for _, k := range small() {
		more := slices.Clone(lists)
		for _, o := range smallObjects(k) {
			l = append(l, put(o), api.Event{Kind: api.Delete, Object: o})
			for _, x := range lists {
				more = append(more, append(slices.Clone(x), o))
			}
		}
		lists = more
	}
	for n := range int64(5) {
		l = append(l, mark(n))
		for _, x := range lists {
			if e := relist(n, x...); event.Right(e) {
				l = append(l, e)
			}
		}
	}
	return l
}

// P8.1: each event of a small world, at each state to which its events lead. P8.2: nothing that is known gets less; what was applied is stale, when it comes again.
func TestAllStates(t *testing.T) {
	type way struct {
		m    *model
		back int
		by   api.Event
	}
	keys, events := append(small(), key("a", "p", "y"), api.Key{}), smallEvents()
	ways := []way{{m: newModel(), back: -1}}
	seen := map[string]bool{ways[0].m.text(): true}
	lead := func(i int) *cache.Cache {
		var path []api.Event
		for ; ways[i].back >= 0; i = ways[i].back {
			path = append(path, ways[i].by)
		}
		slices.Reverse(path)
		return after(t, path...)
	}
	for i := 0; i < len(ways); i++ {
		c := lead(i)
		holds(t, c, ways[i].m, keys)
		for _, e := range events {
			m := ways[i].m
			if event.Right(e) {
				next := step(t, c, m, e, keys)
				if next == m {
					continue
				}
				for _, k := range keys {
					if next.known(textOf(k)) < m.known(textOf(k)) {
						t.Fatalf("behind\n%s%s: less is known", m.text(), wholeEvent(e))
					}
				}
				if d, err := c.Apply(e); err != api.ErrStale || len(d) != 0 {
					t.Fatalf("behind\n%s%s: again: %d", m.text(), wholeEvent(e), err)
				}
				if text := next.text(); !seen[text] {
					seen[text] = true
					ways = append(ways, way{next, i, e})
				}
				holds(t, c, next, keys)
				c = lead(i)
			} else if d, err := c.Apply(e); err != api.ErrArg || len(d) != 0 {
				t.Fatalf("%s: %d", wholeEvent(e), err)
			}
		}
		holds(t, c, ways[i].m, keys)
	}
	if len(ways) < 200 {
		t.Errorf("only %d states", len(ways))
	}
}

// drawn is an event of some keys, at versions around a time; some may not be.
func drawn(r *rand.Rand, keys []api.Key, now int64) api.Event {
	version := func() int64 { return now - 6 + r.Int63n(10) }
	draw := func(k api.Key) api.Object {
		o := api.Object{Key: k, Version: version(), Terminating: r.Intn(2) == 0, Best: r.Intn(2) == 0}
		if r.Intn(2) == 0 {
			o.Class = "high"
		}
		for i := range r.Intn(3) {
			o.Charge = append(o.Charge, res("r"+strconv.Itoa(i), r.Int63n(3)))
		}
		return o
	}
	o := draw(keys[r.Intn(len(keys))])
	switch n := r.Intn(20); {
	case n < 10:
		return put(o)
	case n < 15:
		return api.Event{Kind: api.Delete, Object: o}
	case n < 17:
		return mark(version() - 3)
	case n < 18:
		return api.Event{Kind: api.Kind(r.Intn(6) - 1), Object: o, Version: version()}
	}
	e := relist(version())
	for _, k := range keys {
		if o := draw(k); r.Intn(3) > 0 {
			o.Version = min(o.Version, e.Version)
			e.Objects = append(e.Objects, o)
		}
	}
	e.Objects = event.Sorted(e.Objects)
	return e
}

// someKeys are so many keys that may be.
func someKeys(count int) []api.Key {
	var l []api.Key
	for i := range count {
		l = append(l, key([]string{"a", "a-b", "a0"}[i%3], "p", strconv.Itoa(i/3)))
	}
	return l
}

// P8.1 and P8.2, of long lists of events; P8.3: the deltas, from nothing on, make the objects.
func TestLongLists(t *testing.T) {
	r := rand.New(rand.NewSource(5))
	applied := 0
	for round := range 300 {
		keys := someKeys(1 + round%12)
		c, m := cache.New(), newModel()
		made := map[api.Key]api.Object{}
		var l []api.Event
		for now := range int64(120) {
			e := drawn(r, keys, now)
			if !event.Right(e) {
				does(t, c, e, api.ErrArg, "")
				continue
			}
			next, want := m.apply(e)
			d, err := c.Apply(e)
			if err != want || deltaTexts(d) != changed(m, next) {
				t.Fatalf("behind\n%s%s: %d\n%s", m.text(), wholeEvent(e), err, deltaTexts(d))
			}
			m = next
			holds(t, c, m, keys)
			net(t, made, d)
			if err == api.OK {
				applied++
				l = append(l, e)
			}
		}
		var all []api.Object
		for _, o := range made {
			all = append(all, o)
		}
		if wholes(event.Sorted(all)) != wholes(c.Objects()) {
			t.Fatalf("the deltas make\n%snot\n%s", wholes(event.Sorted(all)), wholes(c.Objects()))
		}
		// What was applied stays stale, whatever came behind it.
		was := look(t, c)
		for _, e := range l {
			does(t, c, e, api.ErrStale, "")
		}
		if look(t, c) != was {
			t.Fatal("stale events change something")
		}
	}
	if applied < 5000 {
		t.Errorf("only %d were applied", applied)
	}
}

// net does to objects what deltas tell, each of which must fit to what is there.
func net(t *testing.T, made map[api.Key]api.Object, l []api.Delta) {
	t.Helper()
	for _, d := range l {
		old, had := made[d.Key]
		if d.Had != had || whole(d.Old) != whole(old) {
			t.Fatalf("%snot what was: %v %s", deltaText(d), had, whole(old))
		}
		delete(made, d.Key)
		if d.Has {
			made[d.Key] = d.New
		}
	}
}

// P8.3 and P8.4: the same events, in whatever order of the keys and within them, make the same objects and graves.
func TestWhateverOrder(t *testing.T) {
	r := rand.New(rand.NewSource(6))
	for round := range 200 {
		keys := someKeys(1 + round%7)
		last := map[api.Key]api.Event{}
		var l []api.Event
		for n := range int64(40) {
			o := api.Object{Key: keys[r.Intn(len(keys))], Version: n + 1}
			e := api.Event{Kind: api.Kind(r.Intn(2)), Object: o}
			last[o.Key] = e
			l = append(l, e)
		}
		l = append(l, l[:20]...)
		for range 5 {
			r.Shuffle(len(l), func(i, j int) { l[i], l[j] = l[j], l[i] })
			c := cache.New()
			made := map[api.Key]api.Object{}
			for _, e := range l {
				d, _ := c.Apply(e)
				net(t, made, d)
			}
			for k, e := range last {
				o, is := c.Get(k)
				if is != (e.Kind == api.Put) || is && whole(o) != whole(e.Object) || c.Known(k) != e.Object.Version || slices.Contains(c.Graves(), k) == is {
					t.Fatalf("%s: %v %s", textOf(k), is, whole(o))
				}
			}
			if len(made) != len(c.Objects()) || len(made)+len(c.Graves()) != len(last) {
				t.Fatalf("%d objects, %d made, %d graves of %d", len(c.Objects()), len(made), len(c.Graves()), len(last))
			}
		}
	}
}

// P2: two caches that are told the same tell the same, whatever a third one is told between.
func TestTheSameOfTheSame(t *testing.T) {
	for seed := range int64(50) {
		r := rand.New(rand.NewSource(seed))
		keys := someKeys(30)
		a, b, other := cache.New(), cache.New(), cache.New()
		for now := range int64(60) {
			e := drawn(r, keys, now)
			x, err := a.Apply(e)
			other.Apply(drawn(r, keys, now))
			y, want := b.Apply(e)
			if err != want || deltaTexts(x) != deltaTexts(y) || look(t, a) != look(t, b) {
				t.Fatalf("%s: %d %d", wholeEvent(e), err, want)
			}
		}
	}
}

// scribble writes into all that a list has, and behind it.
func scribble(l []api.Resource) {
	for i := range l {
		l[i] = res("changed", -7)
	}
	_ = append(l, res("behind", -8))
}

func scribbleObjects(l []api.Object) {
	for i := range l {
		scribble(l[i].Charge)
		l[i] = api.Object{}
	}
	_ = append(l, api.Object{})
}

// Rule 4: what was handed in, and what was handed back, is the caller's, who may change it.
func TestWhatTheCallerChanges(t *testing.T) {
	r := rand.New(rand.NewSource(7))
	for round := range 200 {
		keys := someKeys(1 + round%6)
		c, m := cache.New(), newModel()
		for now := range int64(40) {
			e := drawn(r, keys, now)
			if !event.Right(e) {
				continue
			}
			given := copiedEvent(e)
			m, _ = m.apply(e)
			d, _ := c.Apply(given)
			was := deltaTexts(d)
			scribble(given.Object.Charge)
			scribbleObjects(given.Objects)
			if deltaTexts(d) != was {
				t.Fatal("a delta shares a list with the event")
			}
			for i := range d {
				scribble(d[i].Old.Charge)
				scribble(d[i].New.Charge)
				d[i] = api.Delta{}
			}
			_ = append(d, api.Delta{})
			for _, k := range keys {
				o, _ := c.Get(k)
				scribble(o.Charge)
			}
			scribbleObjects(c.Objects())
			graves := c.Graves()
			for i := range graves {
				graves[i] = api.Key{}
			}
			_ = append(graves, api.Key{})
			holds(t, c, m, keys)
		}
	}
}

// Rule 4: no two lists of one answer are one, though they were one when they came.
func TestListsOfTheirOwn(t *testing.T) {
	charge := []api.Resource{res("cpu", 1)}
	x, y := api.Object{Key: key("a", "b", "x"), Version: 1, Charge: charge}, api.Object{Key: key("a", "b", "y"), Version: 1, Charge: charge}
	c := cache.New()
	d, _ := c.Apply(relist(3, x, y))
	scribble(d[0].New.Charge)
	if d[1].New.Charge[0].N != 1 || charge[0].N != 1 {
		t.Error("two deltas share a list")
	}
	l := c.Objects()
	scribble(l[0].Charge)
	if l[1].Charge[0].N != 1 || c.Objects()[0].Charge[0].N != 1 {
		t.Error("two objects share a list")
	}
	x.Class = "high"
	d, _ = c.Apply(relist(4, x, y))
	if len(d) != 1 {
		t.Fatalf("%s", deltaTexts(d))
	}
	scribble(d[0].Old.Charge)
	if d[0].New.Charge[0].N != 1 {
		t.Error("the object that was, and the one that is, share a list")
	}
}

// Rule 4: an event is not written into, and what lies behind its lists is neither read nor written.
func TestWhatLiesBehind(t *testing.T) {
	charge := []api.Resource{res("cpu", 1), res("a", -1), res("b", 2)}
	o := api.Object{Key: key("a", "b", "x"), Version: 1, Charge: charge[:1]}
	p := api.Object{Key: key("a", "b", "y"), Version: 2, Charge: charge[:1]}
	objects := []api.Object{o, p, {}, {Key: key("a", "b", "z"), Version: 3}}
	for _, e := range []api.Event{put(o), {Kind: api.Delete, Object: p}, {Kind: api.Relist, Version: 5, Object: o, Objects: objects[:2]}, {Kind: api.Bookmark, Version: 6, Object: o, Objects: objects[:2]}} {
		for _, c := range []*cache.Cache{cache.New(), after(t, put(api.Object{Key: p.Key, Version: 1})), after(t, mark(9))} {
			was := wholeEvent(e)
			d, _ := c.Apply(e)
			if wholeEvent(e) != was || len(c.Objects()) > 2 {
				t.Errorf("%s%s", wholeEvent(e), deltaTexts(d))
			}
			for _, x := range c.Objects() {
				if len(x.Charge) > 1 {
					t.Errorf("%s", whole(x))
				}
				scribble(x.Charge)
			}
			for _, x := range d {
				scribble(x.New.Charge)
				scribble(x.Old.Charge)
			}
			if charge[0] != res("cpu", 1) || charge[1] != res("a", -1) || charge[2] != res("b", 2) || whole(objects[2]) != whole(api.Object{}) || objects[3].Key.Name != "z" {
				t.Errorf("%s: written into", wholeEvent(e))
			}
		}
	}
}
