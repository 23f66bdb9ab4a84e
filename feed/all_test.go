package feed_test

import (
	"fmt"
	"math"
	"math/rand"
	"slices"
	"testing"

	"scutage/api"
	"scutage/cache"
	"scutage/feed"
	"scutage/store"
)

// smallCalls are all calls at a length that may change a feed of a small world, and those just beside.
func smallCalls(length int) []call {
	l := []call{{does: 'c', n: int64(length) + 1}}
	for n := int64(-1); n <= int64(length); n++ {
		l = append(l, call{does: 't', n: n}, call{does: 'd', n: n}, call{does: 'c', n: n})
	}
	return l
}

// rises tells what P10.2 and P10.3 say of a call that was OK.
func rises(t *testing.T, was, is *model, f *feed.Feed, c call) {
	t.Helper()
	if f.Safe() < was.safe() {
		t.Fatalf("behind %s: %c %d: less is safe", whole(was), c.does, c.n)
	}
	if f.Safe() == int64(f.Len()) && !f.Settled() {
		t.Fatalf("%s: all is safe, but not settled", whole(is))
	}
	if c.does != 't' || was.events[c.n].told {
		return
	}
	for j := range c.n {
		if was.events[j].key == was.events[c.n].key && slices.Contains(was.allOpen(), int(j)) {
			t.Fatalf("%s: %d is told ahead of %d", whole(was), c.n, j)
		}
	}
}

// P10.1: each call of a small world, at each state to which its calls lead; a call with an error changes nothing. P10.2 and P10.3, of each.
func TestAllStates(t *testing.T) {
	const length = 4
	type way struct {
		m    *model
		back int
		by   call
	}
	ways := []way{{m: &model{}, back: -1}}
	seen := map[string]bool{whole(ways[0].m): true}
	lead := func(i int) *feed.Feed {
		var path []call
		for ; ways[i].back >= 0; i = ways[i].back {
			path = append(path, ways[i].by)
		}
		f := feed.New()
		for _, c := range slices.Backward(path) {
			try(f, c)
		}
		return f
	}
	for i := 0; i < len(ways); i++ {
		f := lead(i)
		holds(t, f, ways[i].m)
		calls := smallCalls(len(ways[i].m.events))
		if len(ways[i].m.events) < length {
			calls = append(calls, call{does: 'g', key: named('a')}, call{does: 'g', key: named('b')})
		}
		for _, c := range calls {
			next := ways[i].m.copied()
			if do(t, f, next, c) == api.OK {
				rises(t, ways[i].m, next, f, c)
			}
			holds(t, f, next)
			if text := whole(next); text != whole(ways[i].m) {
				f = lead(i)
				if !seen[text] {
					seen[text] = true
					ways = append(ways, way{next, i, c})
				}
			}
		}
		holds(t, f, ways[i].m)
	}
	if len(ways) < 2000 {
		t.Errorf("only %d states", len(ways))
	}
}

// someKeys are so many keys.
func someKeys(count int) []api.Key {
	var l []api.Key
	for i := range count {
		l = append(l, api.Key{Space: []string{"a", "b"}[i%2], Kind: []string{"p", "q"}[i/2%2], Name: fmt.Sprint(i / 4)})
	}
	return l
}

// drawn is a call at a length, of some keys; some are wrong.
func drawn(r *rand.Rand, keys []api.Key, length int) call {
	c := call{does: "gtttdc"[r.Intn(6)], key: keys[r.Intn(len(keys))], n: int64(r.Intn(length+3) - 1)}
	if c.does == 'c' && r.Intn(3) > 0 {
		c.n /= 3
	}
	if r.Intn(40) == 0 {
		c.n = []int64{math.MinInt64, math.MaxInt64, math.MinInt32, math.MaxInt32, 1 << 32}[r.Intn(5)]
	}
	return c
}

// P10.1 to P10.3, of long lists of calls.
func TestLongLists(t *testing.T) {
	r := rand.New(rand.NewSource(10))
	answers := map[api.Errno]int{}
	for round := range 400 {
		keys := someKeys(1 + round%9)
		f, m := feed.New(), &model{}
		for range 150 {
			c := drawn(r, keys, f.Len())
			was := m.copied()
			err := do(t, f, m, c)
			answers[err]++
			if err == api.OK {
				rises(t, was, m, f, c)
			} else if whole(was) != whole(m) {
				t.Fatal("the model changes with an error")
			}
			holds(t, f, m)
		}
	}
	for _, err := range []api.Errno{api.OK, api.ErrArg, api.ErrStale, api.ErrOrder} {
		if answers[err] < 500 {
			t.Errorf("only %d of %d", answers[err], err)
		}
	}
}

// P2: two feeds of the same calls tell the same, whatever a third one is called between, and however often they are asked.
func TestTheSameOfTheSame(t *testing.T) {
	for seed := range int64(100) {
		r := rand.New(rand.NewSource(seed))
		keys := someKeys(1 + int(seed)%20)
		a, b, other := feed.New(), feed.New(), feed.New()
		for range 100 {
			c := drawn(r, keys, a.Len())
			err := try(a, c)
			try(other, drawn(r, keys, other.Len()))
			look(a)
			if e := try(b, c); e != err || look(a) != look(b) {
				t.Fatalf("%d %s, and %d %s", err, look(a), e, look(b))
			}
		}
	}
}

// P1: long logs of one key, told in their turn, and told behind many that were dropped, or covered; of many keys, too.
func TestLongLogs(t *testing.T) {
	const length = 200000
	one, dropped, covered, many := feed.New(), feed.New(), feed.New(), feed.New()
	for i := range length {
		for _, f := range []*feed.Feed{one, dropped, covered} {
			f.Grow(named('a'))
		}
		many.Grow(api.Key{Name: fmt.Sprint(i)})
	}
	for i := range length - 1 {
		if one.Tell(i) != api.OK || many.Tell(length-1-i) != api.OK || dropped.Drop(i) != api.OK {
			t.Fatal(i)
		}
	}
	does(t, covered, fmt.Sprintf("c%d", length-1))
	has(t, many, 0, false, 0)
	does(t, many, "t0")
	for _, f := range []*feed.Feed{one, dropped, covered} {
		has(t, f, map[bool]int64{false: length - 1}[f == dropped], false, length-1)
		does(t, f, fmt.Sprintf("t%d", length-1))
	}
	has(t, one, length, true)
	has(t, covered, length, true)
	has(t, many, length, true)
	has(t, dropped, 0, true)
}

// watched is a store, with the feed along its log, and a cache that hears what the feed tells.
type watched struct {
	s *store.Store
	f *feed.Feed
	c *cache.Cache
}

// write puts an object, or lets one go; the feed grows, if it is done.
func (w watched) write(r *rand.Rand, keys []api.Key) {
	k := keys[r.Intn(len(keys))]
	err := api.ErrNone
	if r.Intn(3) == 0 {
		_, err = w.s.Delete(k)
	} else {
		_, err = w.s.Put(api.Object{Key: k, Best: r.Intn(2) == 0})
	}
	if err == api.OK {
		w.f.Grow(k)
	}
}

// tell tells an event, if the feed does; to the cache it is stale just if it was told, or is covered.
func (w watched) tell(t *testing.T, i int, heard []bool, covered int64) {
	t.Helper()
	if w.f.Tell(i) != api.OK {
		return
	}
	want := api.OK
	if heard[i] || int64(i) < covered {
		want = api.ErrStale
	}
	if _, err := w.c.Apply(w.s.Log()[i]); err != want {
		t.Fatalf("%d of %s: %d, not %d", i, look(w.f), err, want)
	}
	heard[i] = true
}

// settles tells whether a cache has the store's objects, if the feed is settled.
func (w watched) settles(t *testing.T) bool {
	t.Helper()
	if !w.f.Settled() {
		return false
	}
	if got, want := whole(w.c.Objects()), whole(w.s.Snapshot().Objects); got != want {
		t.Fatalf("%s: the cache has %s, not %s", look(w.f), got, want)
	}
	return true
}

// T2: a cache that hears what a feed tells, in whatever order, with Relists that cover, and Bookmarks of what is safe, has the store's objects, once the feed is settled.
func TestToldByAFeed(t *testing.T) {
	r := rand.New(rand.NewSource(11))
	settled, gaps := 0, 0
	for round := range 300 {
		keys := someKeys(1 + round%7)
		w := watched{store.New(), feed.New(), cache.New()}
		heard, covered := make([]bool, 200), int64(0)
		for range 120 {
			switch n := r.Intn(20); {
			case n < 4:
				w.write(r, keys)
			case n < 15 && w.f.Len() > 0:
				w.tell(t, r.Intn(w.f.Len()), heard, covered)
			case n < 17 && w.f.Len() > 0:
				w.f.Drop(r.Intn(w.f.Len()))
			case n < 18:
				w.c.Apply(api.Event{Kind: api.Bookmark, Version: w.f.Safe()})
			case n < 19 && r.Intn(4) == 0:
				e := w.s.Snapshot()
				if _, err := w.c.Apply(e); err == api.OK {
					does(t, w.f, fmt.Sprintf("c%d", e.Version))
					covered = e.Version
				}
			}
			if w.settles(t) {
				settled++
				if w.f.Safe() < int64(w.f.Len()) {
					gaps++
				}
			}
		}
	}
	if settled < 2000 || gaps < 500 {
		t.Errorf("only %d times settled, %d of them with a gap", settled, gaps)
	}
}
