package store_test

import (
	"math/rand"
	"slices"
	"strconv"
	"testing"

	"scutage/api"
	"scutage/cache"
	"scutage/event"
	"scutage/store"
)

// small are the keys of a small world; their order by parts is another one than by texts.
func small() []api.Key { return []api.Key{key("a", "p", "x"), key("a-b", "p", "x")} }

// smallWrites are all of a small world.
func smallWrites() []write {
	l := []write{
		{put: true, o: api.Object{Version: 1}},
		{put: true, o: api.Object{Key: small()[0], Version: 1, Charge: []api.Resource{res("cpu", -1)}}},
		{},
	}
	for _, k := range small() {
		l = append(l, write{true, true, api.Object{Key: k, Version: 2}}, write{true, true, api.Object{Key: k, Class: "high", Charge: []api.Resource{res("cpu", 1)}}}, write{may: true, o: api.Object{Key: k}})
	}
	return l
}

// P9.1 and P9.2: all lists of up to five writes of a small world.
func TestAllShortLists(t *testing.T) {
	writes := smallWrites()
	var more func(path []write)
	more = func(path []write) {
		s, m := store.New(), &model{}
		for _, w := range path {
			do(t, s, m, w)
		}
		holds(t, s, m, small()...)
		if len(path) == 5 {
			return
		}
		for _, w := range writes {
			more(append(slices.Clone(path), w))
		}
	}
	more(nil)
}

// someKeys are so many keys that may be.
func someKeys(count int) []api.Key {
	var l []api.Key
	for i := range count {
		l = append(l, key([]string{"a", "a-b", "a0"}[i%3], "p", strconv.Itoa(i/3)))
	}
	return l
}

// drawn is a write of some keys; some may not be.
func drawn(r *rand.Rand, keys []api.Key) write {
	o := api.Object{Key: keys[r.Intn(len(keys))], Version: r.Int63n(9) - 4, Terminating: r.Intn(2) == 0, Best: r.Intn(2) == 0}
	if r.Intn(2) == 0 {
		o.Class = "high"
	}
	for i := range r.Intn(3) {
		o.Charge = append(o.Charge, res("r"+strconv.Itoa(i), r.Int63n(3)))
	}
	w := write{r.Intn(5) > 1, r.Intn(10) > 0, o}
	if !w.may {
		w.o.Key.Kind = "-"
	}
	return w
}

// copied is a write with a list of its own, which has room behind.
func copied(w write) write {
	w.o.Charge = append(make([]api.Resource, 0, 4), w.o.Charge...)
	return w
}

// P9.1 and P9.2, of long lists of writes. P9.3: a cache that hears of each write as it comes has the objects behind each.
func TestLongLists(t *testing.T) {
	r := rand.New(rand.NewSource(3))
	done := 0
	for round := range 100 {
		keys := someKeys(1 + round%12)
		s, m, c := store.New(), &model{}, cache.New()
		for range 60 {
			was := s.Version()
			do(t, s, m, drawn(r, keys))
			holds(t, s, m, keys...)
			if n := s.Version(); n > was {
				tell(t, c, s.Log()[was:])
				done++
			}
			hasAll(t, c, s)
		}
	}
	if done < 2000 {
		t.Errorf("only %d were done", done)
	}
}

// P2: two stores that take the same writes tell the same, whatever a third one takes between.
func TestTheSameOfTheSame(t *testing.T) {
	for seed := range int64(50) {
		r := rand.New(rand.NewSource(seed))
		keys := someKeys(30)
		a, b, other := store.New(), store.New(), store.New()
		for range 60 {
			w := drawn(r, keys)
			v, err := try(a, w)
			try(other, drawn(r, keys))
			if n, e := try(b, w); n != v || e != err || look(a) != look(b) {
				t.Fatalf("%d %d\n%s\nand %d %d\n%s", v, err, look(a), n, e, look(b))
			}
		}
	}
}

// tell tells a cache events, none of which it may refuse.
func tell(t *testing.T, c *cache.Cache, l []api.Event) {
	t.Helper()
	for _, e := range l {
		if _, err := c.Apply(e); err != api.OK {
			t.Fatalf("%s: %d", whole(e), err)
		}
	}
}

// hasAll tells whether a cache has just the store's objects.
func hasAll(t *testing.T, c *cache.Cache, s *store.Store) {
	t.Helper()
	if got, want := whole(c.Objects()), whole(s.Snapshot().Objects); got != want {
		t.Fatalf("the cache has\n%s, not\n%s", got, want)
	}
}

// busy is a store behind so many writes, some of which were none.
func busy(t *testing.T, seed int64, keys []api.Key, writes int) *store.Store {
	t.Helper()
	r := rand.New(rand.NewSource(seed))
	s := store.New()
	for range writes {
		try(s, drawn(r, keys))
	}
	return s
}

// P9.3: a cache that is told the log, the snapshot, or both, in either order, has the objects; its graves are the keys that went.
func TestToldLogOrSnapshot(t *testing.T) {
	hasAll(t, cache.New(), store.New())
	c := cache.New()
	if d, err := c.Apply(store.New().Snapshot()); err != api.ErrStale || len(d) != 0 {
		t.Errorf("the snapshot of nothing: %d", err)
	}
	for seed := range int64(40) {
		s := busy(t, seed, someKeys(1+int(seed)%9), 50)
		logged, listed := cache.New(), cache.New()
		tell(t, logged, s.Log())
		hasAll(t, logged, s)
		for _, e := range s.Log() {
			if _, is := s.Get(e.Object.Key); slices.Contains(logged.Graves(), e.Object.Key) == is {
				t.Fatalf("%s: an object, and a grave, or neither", textOf(e.Object.Key))
			}
		}
		tell(t, listed, []api.Event{s.Snapshot()})
		hasAll(t, listed, s)
		tell(t, logged, []api.Event{s.Snapshot()})
		hasAll(t, logged, s)
		for _, e := range s.Log() {
			if _, err := listed.Apply(e); err != api.ErrStale {
				t.Fatalf("%s: %d, though the snapshot covers it", whole(e), err)
			}
		}
		hasAll(t, listed, s)
	}
}

// P9.3: whatever part of the log a cache was told, in whatever order, and perhaps twice, the snapshot puts it right; so does the rest of the log a snapshot of old.
func TestToldAPart(t *testing.T) {
	r := rand.New(rand.NewSource(4))
	for seed := range int64(40) {
		keys := someKeys(1 + int(seed)%9)
		s := busy(t, seed, keys, 40)
		l := s.Log()
		for n := range len(l) + 1 {
			c := cache.New()
			tell(t, c, l[:n])
			tell(t, c, []api.Event{s.Snapshot()})
			hasAll(t, c, s)
			old := cache.New()
			if e := oldSnapshot(l[:n]); e.Version > 0 {
				tell(t, old, []api.Event{e})
			}
			tell(t, old, l[n:])
			hasAll(t, old, s)
		}
		for range 10 {
			c := cache.New()
			for range r.Intn(2 * len(l)) {
				c.Apply(l[r.Intn(len(l))])
			}
			c.Apply(s.Snapshot())
			hasAll(t, c, s)
		}
	}
}

// oldSnapshot is that of a store that has just done what a log tells.
func oldSnapshot(l []api.Event) api.Event {
	s := store.New()
	for _, e := range l {
		if e.Kind == api.Put {
			s.Put(e.Object)
		} else {
			s.Delete(e.Object.Key)
		}
	}
	return s.Snapshot()
}

// P9.3, T2: a cache that is told all of the log, in whatever order, has the objects.
func TestToldInWhateverOrder(t *testing.T) {
	r := rand.New(rand.NewSource(5))
	for seed := range int64(100) {
		s := busy(t, seed, someKeys(1+int(seed)%9), 40)
		l := slices.Concat(s.Log(), s.Log())
		r.Shuffle(len(l), func(i, j int) { l[i], l[j] = l[j], l[i] })
		c := cache.New()
		for _, e := range l {
			c.Apply(e)
		}
		hasAll(t, c, s)
	}
}

// P9.3, of a store that was full: a cache has as much room.
func TestToldOfAFullOne(t *testing.T) {
	s := full(t, api.MaxObjects)
	for n := range 5 {
		if _, err := s.Delete(numbered(n * 100)); err != api.OK {
			t.Fatal(err)
		}
		puts(t, s, api.Object{Key: numbered(1000 + n)})
	}
	c := cache.New()
	tell(t, c, s.Log())
	hasAll(t, c, s)
	c = cache.New()
	tell(t, c, []api.Event{s.Snapshot()})
	hasAll(t, c, s)
}

// scribble writes into all that a list has, and behind it.
func scribble(l []api.Resource) {
	for i := range l {
		l[i] = res("changed", -7)
	}
	_ = append(l, res("behind", -8))
}

func scribbleObjects(l []api.Object) {
	for i := range l {
		scribble(l[i].Charge)
		l[i] = api.Object{}
	}
	_ = append(l, api.Object{})
}

func scribbleEvents(l []api.Event) {
	for i := range l {
		scribble(l[i].Object.Charge)
		scribbleObjects(l[i].Objects)
		l[i] = api.Event{Kind: -1}
	}
	_ = append(l, api.Event{Kind: -1})
}

// Rule 4: what was handed in, and what was handed back, is the caller's, who may change it.
func TestWhatTheCallerChanges(t *testing.T) {
	r := rand.New(rand.NewSource(7))
	for round := range 50 {
		keys := someKeys(1 + round%6)
		s, m := store.New(), &model{}
		for range 40 {
			w := copied(drawn(r, keys))
			do(t, s, m, w)
			scribble(w.o.Charge)
			for _, k := range keys {
				o, _ := s.Get(k)
				scribble(o.Charge)
			}
			scribbleEvents(s.Log())
			scribbleEvents([]api.Event{s.Snapshot()})
			holds(t, s, m, keys...)
		}
	}
}

// Rule 4: no two lists of one answer are one, though they were one when they came; nor is an answer one with what was answered ahead of it.
func TestListsOfTheirOwn(t *testing.T) {
	charge := []api.Resource{res("cpu", 1)}
	s := store.New()
	for _, name := range []string{"x", "y", "x"} {
		puts(t, s, api.Object{Key: key("a", "b", name), Charge: charge})
	}
	l, old, e := s.Log(), s.Log(), s.Snapshot()
	o, _ := s.Get(key("a", "b", "x"))
	scribble(l[2].Object.Charge)
	for _, other := range [][]api.Resource{l[0].Object.Charge, l[1].Object.Charge, old[2].Object.Charge, e.Objects[0].Charge, o.Charge, charge} {
		if other[0] != res("cpu", 1) {
			t.Error("an event of the log shares a list")
		}
	}
	scribble(e.Objects[0].Charge)
	for _, other := range [][]api.Resource{e.Objects[1].Charge, s.Snapshot().Objects[0].Charge, old[2].Object.Charge, o.Charge} {
		if other[0] != res("cpu", 1) {
			t.Error("an object of the snapshot shares a list")
		}
	}
	puts(t, s, pod("z", 1))
	if len(old) != 3 || len(e.Objects) != 2 || len(s.Log()) != 4 {
		t.Error("what was answered grows")
	}
}

// Rule 4: an object is not written into, and what lies behind its list is neither read nor written.
func TestWhatLiesBehind(t *testing.T) {
	charge := []api.Resource{res("cpu", 1), res("a", -1), res("b", 2)}
	o := api.Object{Key: key("a", "b", "x"), Version: -5, Charge: charge[:1]}
	s := store.New()
	puts(t, s, o, o)
	got, _ := s.Get(o.Key)
	for _, l := range [][]api.Resource{got.Charge, s.Log()[1].Object.Charge, s.Snapshot().Objects[0].Charge} {
		if len(l) != 1 || l[0] != res("cpu", 1) {
			t.Errorf("%s", whole(l))
		}
		scribble(l)
	}
	if o.Version != -5 || charge[0] != res("cpu", 1) || charge[1] != res("a", -1) || charge[2] != res("b", 2) {
		t.Errorf("written into: %s %s", whole(o), whole(charge))
	}
	if e := s.Snapshot(); !event.Right(e) || e.Objects[0].Charge[0] != res("cpu", 1) {
		t.Errorf("%s", whole(e))
	}
}
