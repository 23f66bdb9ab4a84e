package cache_test

import (
	"math"
	"math/rand"
	"slices"
	"strconv"
	"strings"
	"testing"

	"scutage/api"
	"scutage/cache"
	"scutage/event"
)

func key(space, kind, name string) api.Key {
	return api.Key{Space: space, Kind: kind, Name: name}
}

func res(name string, n int64) api.Resource { return api.Resource{Name: name, N: n} }

// at is an object of a name, at a version.
func at(name string, version int64) api.Object {
	return api.Object{Key: key("a", "pod", name), Version: version, Charge: []api.Resource{res("cpu", 2)}}
}

// high is another one of that key and version.
func high(name string, version int64) api.Object {
	o := at(name, version)
	o.Class = "high"
	return o
}

func put(o api.Object) api.Event { return api.Event{Kind: api.Put, Object: o} }

// gone is a Delete, with what counts not for it.
func gone(name string, version int64) api.Event {
	return api.Event{Kind: api.Delete, Object: at(name, version), Version: -7, Objects: []api.Object{{}}}
}

func relist(version int64, l ...api.Object) api.Event {
	return api.Event{Kind: api.Relist, Version: version, Objects: l}
}

func mark(version int64) api.Event { return api.Event{Kind: api.Bookmark, Version: version} }

// many are so many objects whose keys rise, at a version.
func many(count int, version int64) []api.Object {
	var l []api.Object
	for i := range count {
		l = append(l, at("n"+strconv.Itoa(10000+i), version))
	}
	return l
}

func textOf(k api.Key) string { return strings.Join([]string{k.Space, k.Kind, k.Name}, "/") }

// whole is an object as one text: all that is in it, but whether a list without elements is nil.
func whole(o api.Object) string {
	l := []string{o.Key.Space, o.Key.Kind, o.Key.Name, strconv.FormatInt(o.Version, 10), o.Class, strconv.FormatBool(o.Terminating), strconv.FormatBool(o.Best)}
	for _, r := range o.Charge {
		l = append(l, r.Name, strconv.FormatInt(r.N, 10))
	}
	for i, s := range l {
		l[i] = strconv.Quote(s)
	}
	return strings.Join(l, " ")
}

func wholes(l []api.Object) string {
	var all strings.Builder
	for _, o := range l {
		all.WriteString(whole(o) + "\n")
	}
	return all.String()
}

func wholeEvent(e api.Event) string {
	return strconv.Itoa(int(e.Kind)) + " " + strconv.FormatInt(e.Version, 10) + " " + whole(e.Object) + "\n" + wholes(e.Objects)
}

func copiedEvent(e api.Event) api.Event {
	e.Object.Charge = slices.Clone(e.Object.Charge)
	e.Objects = slices.Clone(e.Objects)
	for i := range e.Objects {
		e.Objects[i].Charge = slices.Clone(e.Objects[i].Charge)
	}
	return e
}

// does applies an event, and holds against what should come of it: the error, and a text of the deltas (+ came, - went, ~ another one).
func does(t *testing.T, c *cache.Cache, e api.Event, want api.Errno, deltas string) {
	t.Helper()
	d, err := c.Apply(e)
	s := ""
	for _, x := range d {
		switch {
		case x.Had && x.Has:
			s += "~"
		case x.Has:
			s += "+"
		case x.Had:
			s += "-"
		default:
			s += "?"
		}
		s += x.Key.Name
		if x.Had && x.Old.Key != x.Key || x.Has && x.New.Key != x.Key {
			t.Errorf("%s: an object of another key", s)
		}
		if !x.Had && whole(x.Old) != whole(api.Object{}) || !x.Has && whole(x.New) != whole(api.Object{}) {
			t.Errorf("%s: an object that is not there", s)
		}
	}
	if err != want || s != deltas {
		t.Errorf("%.300s: %d %q, not %d %q", wholeEvent(e), err, s, want, deltas)
	}
}

// has holds what a cache has against texts: names and versions.
func has(t *testing.T, c *cache.Cache, objects, graves string, floor int64) {
	t.Helper()
	var l, g []string
	for _, o := range c.Objects() {
		l = append(l, o.Key.Name+strconv.FormatInt(o.Version, 10))
	}
	for _, k := range c.Graves() {
		g = append(g, k.Name+strconv.FormatInt(c.Known(k), 10))
	}
	if s := strings.Join(l, " "); s != objects {
		t.Errorf("objects %q, not %q", s, objects)
	}
	if s := strings.Join(g, " "); s != graves {
		t.Errorf("graves %q, not %q", s, graves)
	}
	if c.Floor() != floor {
		t.Errorf("floor %d, not %d", c.Floor(), floor)
	}
}

func knows(t *testing.T, c *cache.Cache, name string, version int64) {
	t.Helper()
	if n := c.Known(at(name, 1).Key); n != version {
		t.Errorf("%s: %d is known, not %d", name, n, version)
	}
}

// after is a cache that was told these, all of which it took.
func after(t *testing.T, l ...api.Event) *cache.Cache {
	t.Helper()
	c := cache.New()
	for i, e := range l {
		if _, err := c.Apply(e); err != api.OK {
			t.Fatalf("%d: %d", i, err)
		}
	}
	return c
}

// P8.1, New: nothing is there, and of no key anything is known.
func TestNew(t *testing.T) {
	c := cache.New()
	has(t, c, "", "", 0)
	for _, k := range append(wrongKeys(), key("a", "b", "c")) {
		if o, is := c.Get(k); is || c.Known(k) != 0 || whole(o) != whole(api.Object{}) {
			t.Errorf("%s: %s", textOf(k), whole(o))
		}
	}
	does(t, c, relist(0), api.ErrStale, "")
	does(t, c, mark(0), api.ErrStale, "")
	does(t, c, put(at("x", 1)), api.OK, "+x")
	has(t, cache.New(), "", "", 0)
}

// wrongKeys are keys that may not be.
func wrongKeys() []api.Key {
	return []api.Key{{}, key("", "b", "c"), key("a", "", "c"), key("a", "b", ""), key("A", "b", "c"), key("a", "b-", "c"), key("a", "b", "c/d"), key("a", "b", "abcdefghijklmnopqrstuvwxy")}
}

// P8.1, a Put and a Delete below, at, and above what is known: of a key with nothing, under a floor, with an object, with a grave, and with these above and below a floor.
func TestPutsAndDeletes(t *testing.T) {
	for _, x := range []struct {
		is    []api.Event
		known int64
		there bool
	}{
		{nil, 0, false},
		{[]api.Event{put(at("x", 5))}, 5, true},
		{[]api.Event{gone("x", 5)}, 5, false},
		{[]api.Event{mark(5)}, 5, false},
		{[]api.Event{relist(5)}, 5, false},
		{[]api.Event{relist(5, at("x", 5))}, 5, true},
		{[]api.Event{relist(5, at("x", 3))}, 5, true},
		{[]api.Event{put(at("x", 3)), mark(5)}, 5, true},
		{[]api.Event{put(at("x", 5)), mark(5)}, 5, true},
		{[]api.Event{mark(3), put(at("x", 5))}, 5, true},
		{[]api.Event{put(at("x", 5)), mark(3)}, 5, true},
		{[]api.Event{gone("x", 3), mark(5)}, 5, false},
		{[]api.Event{gone("x", 5), mark(5)}, 5, false},
		{[]api.Event{gone("x", 5), mark(3)}, 5, false},
		{[]api.Event{put(at("x", 3)), gone("x", 5)}, 5, false},
		{[]api.Event{gone("x", 3), put(at("x", 5))}, 5, true},
		{[]api.Event{gone("x", 5), relist(3, at("x", 2))}, 5, false},
		{[]api.Event{put(at("x", 5)), relist(3, at("x", 2))}, 5, true},
		{[]api.Event{put(at("x", math.MaxInt64-1))}, math.MaxInt64 - 1, true},
	} {
		was := after(t, x.is...)
		knows(t, was, "x", x.known)
		for _, n := range []int64{1, x.known - 1, x.known} {
			if n < 1 || n > x.known {
				continue
			}
			c := after(t, x.is...)
			for _, e := range []api.Event{put(at("x", n)), put(high("x", n)), gone("x", n)} {
				does(t, c, e, api.ErrStale, "")
				knows(t, c, "x", x.known)
			}
			if wholes(c.Objects()) != wholes(was.Objects()) || !slices.Equal(c.Graves(), was.Graves()) || c.Floor() != was.Floor() {
				t.Errorf("%d: a stale event changes something", n)
			}
		}
		for _, n := range []int64{x.known + 1, math.MaxInt64} {
			c := after(t, x.is...)
			sign := "+x"
			if x.there {
				sign = "~x"
			}
			does(t, c, put(high("x", n)), api.OK, sign)
			has(t, c, "x"+strconv.FormatInt(n, 10), "", was.Floor())
			if o, is := c.Get(at("x", 1).Key); !is || whole(o) != whole(high("x", n)) {
				t.Errorf("%d: %s", n, whole(o))
			}
			c = after(t, x.is...)
			sign = ""
			if x.there {
				sign = "-x"
			}
			does(t, c, gone("x", n), api.OK, sign)
			has(t, c, "", "x"+strconv.FormatInt(n, 10), was.Floor())
		}
	}
}

// P8.1: a Put takes away its own key's grave, and a Delete its own key's object; those of others stay.
func TestOneKeyAlone(t *testing.T) {
	c := after(t, put(at("w", 1)), put(at("x", 2)), gone("y", 3), gone("z", 4))
	does(t, c, put(at("y", 5)), api.OK, "+y")
	has(t, c, "w1 x2 y5", "z4", 0)
	does(t, c, gone("w", 6), api.OK, "-w")
	has(t, c, "x2 y5", "w6 z4", 0)
	knows(t, c, "v", 0)
	does(t, c, gone("v", 1), api.OK, "")
	has(t, c, "x2 y5", "v1 w6 z4", 0)
	// What differs in one part only is another key.
	for i, k := range []api.Key{key("b", "pod", "x"), key("a", "job", "x"), key("a", "pod", "xx")} {
		d, err := c.Apply(put(api.Object{Key: k, Version: 1}))
		if err != api.OK || len(d) != 1 || d[0].Key != k || d[0].Had || len(c.Objects()) != 3+i {
			t.Errorf("%s: %d %s", textOf(k), err, deltaTexts(d))
		}
	}
}

// P8.1: a Relist below, at and above the floor.
func TestRelistsAndTheFloor(t *testing.T) {
	for _, floor := range []int64{1, 5, math.MaxInt64 - 1} {
		for _, how := range []api.Event{mark(floor), relist(floor)} {
			for _, n := range []int64{0, 1, floor - 1, floor} {
				c := after(t, how, put(at("x", floor+1)))
				does(t, c, relist(n), api.ErrStale, "")
				if n > 0 {
					does(t, c, relist(n, at("x", 1)), api.ErrStale, "")
				}
				does(t, c, mark(n), api.ErrStale, "")
				has(t, c, "x"+strconv.FormatInt(floor+1, 10), "", floor)
			}
			c := after(t, how)
			does(t, c, relist(floor+1, at("x", 1), at("y", floor), at("z", floor+1)), api.OK, "+z")
			has(t, c, "z"+strconv.FormatInt(floor+1, 10), "", floor+1)
		}
	}
}

// P8.1: a Relist beside objects that are older, of its version, and newer, and beside graves.
func TestRelistsBesideObjects(t *testing.T) {
	is := []api.Event{put(at("u", 9)), put(at("v", 10)), put(at("w", 11)), put(at("x", 9)), put(at("y", 10)), put(at("z", 11))}
	// Those that it has not go, unless they are newer than it.
	does(t, after(t, is...), relist(10), api.OK, "-u-v-x-y")
	c := after(t, is...)
	does(t, c, relist(10, at("x", 8), at("y", 8), at("z", 8)), api.OK, "-u-v")
	has(t, c, "w11 x9 y10 z11", "", 10)
	c = after(t, is...)
	does(t, c, relist(10, at("x", 9), at("y", 9), at("z", 9)), api.OK, "-u-v")
	has(t, c, "w11 x9 y10 z11", "", 10)
	c = after(t, is...)
	does(t, c, relist(10, at("x", 10), at("y", 10), at("z", 10)), api.OK, "-u-v~x")
	has(t, c, "w11 x10 y10 z11", "", 10)
	c = after(t, is...)
	does(t, c, relist(12, at("t", 12), at("x", 12), at("y", 12), at("z", 12)), api.OK, "+t-u-v-w~x~y~z")
	has(t, c, "t12 x12 y12 z12", "", 12)

	dug := []api.Event{gone("u", 9), gone("v", 10), gone("w", 11), gone("x", 9), gone("y", 10), gone("z", 11)}
	c = after(t, dug...)
	does(t, c, relist(10), api.OK, "")
	has(t, c, "", "w11 z11", 10)
	c = after(t, dug...)
	does(t, c, relist(10, at("x", 9), at("y", 9), at("z", 9)), api.OK, "")
	has(t, c, "", "w11 z11", 10)
	c = after(t, dug...)
	does(t, c, relist(10, at("x", 10), at("y", 10), at("z", 10)), api.OK, "+x")
	has(t, c, "x10", "w11 z11", 10)
	c = after(t, dug...)
	does(t, c, relist(11, at("x", 8), at("y", 11), at("z", 11)), api.OK, "+y")
	has(t, c, "y11", "", 11)
	// What is covered now does not come back.
	for _, name := range []string{"u", "v", "w", "x", "z"} {
		does(t, c, put(at(name, 11)), api.ErrStale, "")
		does(t, c, gone(name, 11), api.ErrStale, "")
	}
}

// P8.1: a Relist with an object of the very version that its key's object has; below the floor as well, where one of any other version is nothing new.
func TestRelistsOfTheVeryVersion(t *testing.T) {
	for _, is := range [][]api.Event{{put(at("x", 5))}, {put(at("x", 5)), mark(5)}, {put(at("x", 5)), mark(7)}, {relist(7, at("x", 5))}} {
		c := after(t, is...)
		does(t, c, relist(8, at("x", 5)), api.OK, "")
		has(t, c, "x5", "", 8)
		c = after(t, is...)
		does(t, c, relist(8, high("x", 5)), api.OK, "~x")
		if o, _ := c.Get(at("x", 5).Key); whole(o) != whole(high("x", 5)) {
			t.Errorf("%s", whole(o))
		}
		knows(t, c, "x", 8)
		c = after(t, is...)
		does(t, c, relist(8, high("x", 4)), api.OK, "")
		if o, _ := c.Get(at("x", 5).Key); whole(o) != whole(at("x", 5)) {
			t.Errorf("%s", whole(o))
		}
	}
	c := after(t, put(at("x", 5)), mark(7))
	does(t, c, relist(8, high("x", 6)), api.OK, "")
	has(t, c, "x5", "", 8)
	c = after(t, put(at("x", 5)), mark(7))
	does(t, c, relist(8, high("x", 7)), api.OK, "")
	has(t, c, "x5", "", 8)
	c = after(t, put(at("x", 5)), mark(7))
	does(t, c, relist(8, high("x", 8)), api.OK, "~x")
	has(t, c, "x8", "", 8)
	// What differs in one thing alone is another one.
	for i, change := range []func(o *api.Object){
		func(o *api.Object) { o.Class = "low" },
		func(o *api.Object) { o.Terminating = true },
		func(o *api.Object) { o.Best = true },
		func(o *api.Object) { o.Charge = nil },
		func(o *api.Object) { o.Charge = []api.Resource{res("cpu", 3)} },
		func(o *api.Object) { o.Charge = []api.Resource{res("mem", 2)} },
		func(o *api.Object) { o.Charge = []api.Resource{res("cpu", 2), res("mem", 0)} },
	} {
		o := at("x", 5)
		change(&o)
		c := after(t, put(at("x", 5)))
		d, err := c.Apply(relist(9, o))
		if got, _ := c.Get(o.Key); err != api.OK || len(d) != 1 || whole(d[0].Old) != whole(at("x", 5)) || whole(d[0].New) != whole(o) || whole(got) != whole(o) {
			t.Errorf("%d: %d %s", i, err, deltaTexts(d))
		}
	}
	// Lists that are nil, and lists that are empty, are one.
	bare := at("x", 5)
	bare.Charge = nil
	c = after(t, put(bare))
	bare.Charge = []api.Resource{}
	does(t, c, relist(9, bare), api.OK, "")
}

// P8.1: a Relist of nothing, nil or empty, takes away all that is not newer.
func TestRelistsOfNothing(t *testing.T) {
	for _, l := range [][]api.Object{nil, {}} {
		c := after(t, put(at("x", 3)), put(at("y", 9)), gone("z", 2))
		does(t, c, relist(8, l...), api.OK, "-x")
		has(t, c, "y9", "", 8)
	}
}

// P8.1: a Bookmark below, at and above the floor, and the graves that it takes away; objects stay.
func TestBookmarks(t *testing.T) {
	is := []api.Event{put(at("u", 4)), put(at("v", 9)), gone("w", 4), gone("x", 5), gone("y", 6), gone("z", 7), mark(3)}
	for _, n := range []int64{0, 1, 2, 3} {
		c := after(t, is...)
		does(t, c, mark(n), api.ErrStale, "")
		has(t, c, "u4 v9", "w4 x5 y6 z7", 3)
	}
	for n, graves := range map[int64]string{4: "x5 y6 z7", 5: "y6 z7", 6: "z7", 7: "", 8: "", math.MaxInt64: ""} {
		c := after(t, is...)
		does(t, c, mark(n), api.OK, "")
		has(t, c, "u4 v9", graves, n)
		does(t, c, mark(n), api.ErrStale, "")
		does(t, c, mark(n-1), api.ErrStale, "")
		knows(t, c, "u", max(n, 4))
		knows(t, c, "v", max(n, 9))
		knows(t, c, "w", n)
		knows(t, c, "t", n)
	}
	// A Relist takes away the same graves.
	for n, graves := range map[int64]string{4: "x5 y6 z7", 5: "y6 z7", 6: "z7", 7: ""} {
		c := after(t, is...)
		does(t, c, relist(n, at("u", 4)), api.OK, "")
		has(t, c, "u4 v9", graves, n)
	}
	// What a Bookmark has beside its version counts not.
	c := cache.New()
	does(t, c, api.Event{Kind: api.Bookmark, Version: 2, Object: at("x", 9), Objects: []api.Object{at("y", 9), {}}}, api.OK, "")
	has(t, c, "", "", 2)
}

// wrongEvents are events that may not be.
func wrongEvents() []api.Event {
	wrongCharge, wrongClass := at("x", 50), at("x", 50)
	wrongCharge.Charge = []api.Resource{res("b", 1), res("a", 1)}
	wrongClass.Class = "H"
	l := []api.Event{
		{}, {Kind: api.Delete}, {Kind: 4}, {Kind: -1}, {Kind: 9, Object: at("x", 50), Version: 50},
		put(at("x", 0)), put(at("x", -1)), put(wrongCharge), put(wrongClass), gone("x", 0), gone("x", math.MinInt64),
		mark(-1), mark(math.MinInt64), relist(-1),
		relist(50, at("y", 1), at("x", 1)), relist(50, at("x", 1), at("x", 2)), relist(50, at("x", 51)), relist(50, at("x", 0)), relist(50, wrongClass), relist(50, wrongCharge), relist(50, at("x", 1), api.Object{}),
		relist(50, many(1001, 1)...),
		// These would be stale, too, and are told as what may not be.
		relist(1, at("y", 1), at("x", 1)), relist(1, at("x", 2)), put(at("x", -5)),
	}
	for _, k := range wrongKeys() {
		o := at("x", 50)
		o.Key = k
		l = append(l, put(o), api.Event{Kind: api.Delete, Object: o}, relist(50, o))
	}
	return l
}

// P8.1: an event that may not be is none, and changes nothing, ahead of being stale and of being one too many.
func TestEventsThatMayNotBe(t *testing.T) {
	for _, c := range []*cache.Cache{cache.New(), after(t, put(at("x", 9)), gone("y", 8), mark(3)), after(t, relist(5, many(1000, 5)...))} {
		was := look(t, c)
		for _, e := range wrongEvents() {
			does(t, c, e, api.ErrArg, "")
			if look(t, c) != was {
				t.Fatalf("%.300s: changes something", wholeEvent(e))
			}
		}
	}
	// A Delete is of a key, whatever else its object has.
	c := after(t, put(at("x", 9)))
	does(t, c, api.Event{Kind: api.Delete, Object: api.Object{Key: at("x", 1).Key, Version: 10, Class: "H", Charge: []api.Resource{res("", -1)}}}, api.OK, "-x")
	has(t, c, "", "x10", 0)
}

// P8.1: the 1000th object, and the 1001st, by Puts.
func TestFullByPuts(t *testing.T) {
	c := cache.New()
	for i, o := range many(1000, 7) {
		if d, err := c.Apply(put(o)); err != api.OK || len(d) != 1 || len(c.Objects()) != i+1 {
			t.Fatalf("%d: %d", i, err)
		}
	}
	does(t, c, gone("y", 8), api.OK, "")
	was := look(t, c)
	for _, name := range []string{"x", "y"} {
		does(t, c, put(at(name, 9)), api.ErrFull, "")
		if look(t, c) != was {
			t.Fatal("one too many changes something")
		}
	}
	knows(t, c, "x", 0)
	knows(t, c, "y", 8)
	// What is stale is told as such, though there is no room.
	does(t, c, put(at("y", 8)), api.ErrStale, "")
	does(t, c, put(at("n10000", 7)), api.ErrStale, "")
	// One in the place of another one is not one more.
	does(t, c, put(at("n10000", 8)), api.OK, "~n10000")
	does(t, c, gone("x", 9), api.OK, "")
	does(t, c, mark(1), api.OK, "")
	does(t, c, gone("n10001", 9), api.OK, "-n10001")
	does(t, c, put(at("y", 9)), api.OK, "+y")
	does(t, c, put(at("x", 10)), api.ErrFull, "")
	if len(c.Objects()) != 1000 || len(c.Graves()) != 2 {
		t.Errorf("%d %v", len(c.Objects()), c.Graves())
	}
}

// P8.1: the 1000th object, and the 1001st, by Relists: counted is what there would be, not what the Relist has.
func TestFullByRelists(t *testing.T) {
	full := relist(20, many(1000, 5)...)
	c := after(t, put(at("x", 21)), gone("y", 9), put(at("z", 3)))
	was := look(t, c)
	does(t, c, full, api.ErrFull, "")
	if look(t, c) != was {
		t.Error("one too many changes something")
	}
	// It is not stale, as it was not applied.
	does(t, c, full, api.ErrFull, "")
	if d, err := c.Apply(relist(20, full.Objects[:999]...)); err != api.OK || len(d) != 1000 || len(c.Objects()) != 1000 {
		t.Errorf("%d: %d", len(d), err)
	}
	does(t, c, put(at("y", 21)), api.ErrFull, "")
	// 1000 older ones go, 1000 others come.
	c = after(t, relist(4, many(1000, 4)...))
	others := make([]api.Object, 0, 1000)
	for _, o := range many(1000, 5) {
		o.Key.Space = "b"
		others = append(others, o)
	}
	if d, err := c.Apply(relist(20, others...)); err != api.OK || len(d) != 2000 || wholes(c.Objects()) != wholes(others) {
		t.Errorf("%d: %d", len(d), err)
	}
	// A newer one of a key that it has is not one more; nor is one under a newer grave.
	c = after(t, put(at("n10007", 21)))
	if d, err := c.Apply(full); err != api.OK || len(d) != 999 || len(c.Objects()) != 1000 {
		t.Errorf("%d: %d", len(d), err)
	}
	c = after(t, put(at("x", 21)), gone("n10007", 21))
	if d, err := c.Apply(full); err != api.OK || len(d) != 999 || len(c.Objects()) != 1000 || len(c.Graves()) != 1 {
		t.Errorf("%d: %d", len(d), err)
	}
	// A full cache takes a Relist of what it has, and of nothing.
	c = after(t, full)
	does(t, c, relist(21, full.Objects...), api.OK, "")
	if d, err := c.Apply(relist(22)); err != api.OK || len(d) != 1000 || len(c.Objects()) != 0 {
		t.Errorf("%d: %d", len(d), err)
	}
}

// P8.1: there is no limit to graves.
func TestManyGraves(t *testing.T) {
	c := cache.New()
	for i, o := range many(2500, 1) {
		does(t, c, gone(o.Key.Name, int64(i+1)), api.OK, "")
	}
	if len(c.Graves()) != 2500 {
		t.Errorf("%d", len(c.Graves()))
	}
	does(t, c, mark(2400), api.OK, "")
	if len(c.Graves()) != 100 {
		t.Errorf("%d", len(c.Graves()))
	}
}

// P8.1: deltas, objects and graves rise by texts, not by parts, in whatever order they came.
func TestByKeys(t *testing.T) {
	keys := []api.Key{key("0", "z", "z"), key("a-b", "z", "z"), key("a", "b-c", "z"), key("a", "b", "a"), key("a", "b", "a-0"), key("a", "b", "a0"), key("a", "b", "b"), key("a", "b0", "a"), key("a0", "a", "a"), key("b", "a", "a"), key("b", "z", "10"), key("b", "z", "9")}
	var l []api.Object
	for _, k := range keys {
		l = append(l, api.Object{Key: k, Version: 3})
	}
	keysOf := func(d []api.Delta) (is []api.Key) {
		for _, x := range d {
			is = append(is, x.Key)
		}
		return is
	}
	r := rand.New(rand.NewSource(4))
	for range 50 {
		mixed := slices.Clone(l)
		r.Shuffle(len(mixed), func(i, j int) { mixed[i], mixed[j] = mixed[j], mixed[i] })
		c, g := cache.New(), cache.New()
		for _, o := range mixed {
			c.Apply(put(o))
			g.Apply(api.Event{Kind: api.Delete, Object: o})
		}
		if wholes(c.Objects()) != wholes(l) || !slices.Equal(g.Graves(), keys) {
			t.Fatalf("%s%v", wholes(c.Objects()), g.Graves())
		}
		// Some go, some come, some are others, all in one list.
		c = cache.New()
		var listed []api.Object
		for _, o := range mixed[:8] {
			c.Apply(put(o))
		}
		for _, o := range mixed[4:] {
			o.Version = 4
			listed = append(listed, o)
		}
		d, err := c.Apply(relist(9, event.Sorted(listed)...))
		if err != api.OK || !slices.Equal(keysOf(d), keys) {
			t.Fatalf("%d %v", err, keysOf(d))
		}
		for _, x := range d {
			at := slices.IndexFunc(mixed, func(o api.Object) bool { return o.Key == x.Key })
			if x.Had != (at < 8) || x.Has != (at >= 4) {
				t.Fatalf("%s: %v %v", textOf(x.Key), x.Had, x.Has)
			}
		}
	}
}

// P8.1, on a nil cache: nothing is there, nothing comes, whatever the event is.
func TestNilCache(t *testing.T) {
	var c *cache.Cache
	for _, e := range append(wrongEvents(), put(at("x", 1)), gone("x", 1), relist(0), relist(3, at("x", 1)), mark(0), mark(9)) {
		does(t, c, e, api.ErrArg, "")
	}
	for _, k := range append(wrongKeys(), at("x", 1).Key) {
		if o, is := c.Get(k); is || whole(o) != whole(api.Object{}) || c.Known(k) != 0 {
			t.Errorf("%s: %s", textOf(k), whole(o))
		}
	}
	has(t, c, "", "", 0)
}

// P1: a zero Cache is one without anything, too.
func TestZeroCache(t *testing.T) {
	for _, e := range []api.Event{put(at("x", 1)), gone("x", 1), relist(3, at("x", 1)), mark(9)} {
		c, d := new(cache.Cache), cache.New()
		has(t, c, "", "", 0)
		a, err := c.Apply(e)
		b, want := d.Apply(e)
		if err != want || deltaTexts(a) != deltaTexts(b) || look(t, c) != look(t, d) {
			t.Errorf("%s: %d %s", wholeEvent(e), err, deltaTexts(a))
		}
	}
}

// P8.1, Known and Get, of keys that may not be: they have no object, and the floor is known of them.
func TestKeysThatMayNotBe(t *testing.T) {
	c := after(t, put(at("x", 9)), gone("y", 8), mark(5))
	for _, k := range wrongKeys() {
		if o, is := c.Get(k); is || whole(o) != whole(api.Object{}) || c.Known(k) != 5 {
			t.Errorf("%s: %s %d", textOf(k), whole(o), c.Known(k))
		}
	}
}

// P8.4: the greatest version of a key's events counts, in whatever order they come, and whatever comes of others between.
func TestTheLastOne(t *testing.T) {
	events := []api.Event{put(at("x", 1)), gone("x", 2), put(high("x", 3)), gone("x", 5), put(at("x", 4)), put(high("x", 6))}
	var orders func(done, left []api.Event, see func([]api.Event))
	orders = func(done, left []api.Event, see func([]api.Event)) {
		if len(left) == 0 {
			see(done)
			return
		}
		for i, e := range left {
			orders(append(slices.Clone(done), e), slices.Concat(left[:i], left[i+1:]), see)
		}
	}
	for n := 1; n <= len(events); n++ {
		last := slices.MaxFunc(events[:n], func(a, b api.Event) int { return int(a.Object.Version - b.Object.Version) })
		orders(nil, events[:n], func(l []api.Event) {
			c := cache.New()
			for i, e := range l {
				c.Apply(e)
				c.Apply(put(at("w", int64(i+1))))
				c.Apply(gone("z", int64(i+1)))
				// Told twice is told once.
				c.Apply(l[0])
			}
			o, is := c.Get(at("x", 1).Key)
			if is != (last.Kind == api.Put) || is && whole(o) != whole(last.Object) || c.Known(at("x", 1).Key) != last.Object.Version {
				t.Fatalf("%v %s %d", is, whole(o), c.Known(at("x", 1).Key))
			}
			if grave := slices.Contains(c.Graves(), at("x", 1).Key); grave != (last.Kind == api.Delete) {
				t.Fatalf("a grave: %v", grave)
			}
		})
	}
	// A Put and a Delete of one version: the first one told.
	does(t, after(t, put(at("x", 4))), gone("x", 4), api.ErrStale, "")
	does(t, after(t, gone("x", 4)), put(at("x", 4)), api.ErrStale, "")
}

// Example 4 of the whole.
func TestExample(t *testing.T) {
	c := after(t, put(at("x", 5)))
	does(t, c, put(at("x", 3)), api.ErrStale, "")
	does(t, c, gone("x", 6), api.OK, "-x")
	does(t, c, mark(6), api.OK, "")
	does(t, c, put(at("x", 4)), api.ErrStale, "")
	does(t, c, relist(4, at("x", 4)), api.ErrStale, "")
	has(t, c, "", "", 6)
	knows(t, c, "x", 6)
}
