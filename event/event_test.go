package event_test

import (
	"math"
	"math/rand"
	"regexp"
	"slices"
	"sort"
	"strconv"
	"strings"
	"testing"

	"scutage/api"
	"scutage/event"
)

const long24 = "abcdefghijklmnopqrstuvwx"

// asLabel says once more, in another way, what a label is.
var asLabel = regexp.MustCompile(`\A[a-z0-9]([a-z0-9-]{0,22}[a-z0-9])?\z`)

// asText likewise says what a key's text is.
var asText = regexp.MustCompile(`\A[a-z0-9]([a-z0-9-]{0,22}[a-z0-9])?(/[a-z0-9]([a-z0-9-]{0,22}[a-z0-9])?){2}\z`)

func key(space, kind, name string) api.Key {
	return api.Key{Space: space, Kind: kind, Name: name}
}

func res(name string, n int64) api.Resource { return api.Resource{Name: name, N: n} }

// plain is an object that may be, with something in each of its fields.
func plain() api.Object {
	return api.Object{Key: key("a", "pod", "x"), Version: 3, Class: "high", Terminating: true, Best: true, Charge: []api.Resource{res("cpu", 2), res("mem", 0)}}
}

// with is the plain one, changed.
func with(change func(o *api.Object)) api.Object {
	o := plain()
	change(&o)
	return o
}

// named is the plain one, under another key, at a version.
func named(space, kind, name string, version int64) api.Object {
	return with(func(o *api.Object) { o.Key, o.Version = key(space, kind, name), version })
}

// odd is an object that may not be for many reasons, but for its key and version, which a Delete reads.
func odd() api.Object {
	return with(func(o *api.Object) { o.Class, o.Charge = "H", []api.Resource{res("b", -1), res("a", 1), res("", 1)} })
}

func put(o api.Object) api.Event { return api.Event{Kind: api.Put, Object: o} }

func gone(o api.Object) api.Event { return api.Event{Kind: api.Delete, Object: o} }

func relist(version int64, l ...api.Object) api.Event {
	return api.Event{Kind: api.Relist, Version: version, Objects: l}
}

func mark(version int64) api.Event { return api.Event{Kind: api.Bookmark, Version: version} }

// many are so many objects whose keys rise, at versions of 1 to 7.
func many(count int) []api.Object {
	var l []api.Object
	for i := range count {
		l = append(l, named("a", "pod", "n"+strconv.Itoa(10000+i), int64(i%7+1)))
	}
	return l
}

// textOf says once more which text a key has, or would have.
func textOf(k api.Key) string {
	return strings.Join([]string{k.Space, k.Kind, k.Name}, "/")
}

// whole is an object as one text: all that is in it, but whether a list without elements is nil.
func whole(o api.Object) string {
	l := []string{o.Key.Space, o.Key.Kind, o.Key.Name, strconv.FormatInt(o.Version, 10), o.Class, strconv.FormatBool(o.Terminating), strconv.FormatBool(o.Best)}
	for _, r := range o.Charge {
		l = append(l, r.Name, strconv.FormatInt(r.N, 10))
	}
	for i, s := range l {
		l[i] = strconv.Quote(s)
	}
	return strings.Join(l, " ")
}

func wholes(l []api.Object) string {
	var all strings.Builder
	for _, o := range l {
		all.WriteString(whole(o) + "\n")
	}
	return all.String()
}

// wholeEvent likewise is an event as one text.
func wholeEvent(e api.Event) string {
	return strconv.Itoa(int(e.Kind)) + " " + strconv.FormatInt(e.Version, 10) + " " + whole(e.Object) + "\n" + wholes(e.Objects)
}

// copied is the event, with all its lists copied, nil or not as they were.
func copied(e api.Event) api.Event {
	e.Object.Charge = slices.Clone(e.Object.Charge)
	e.Objects = slices.Clone(e.Objects)
	for i := range e.Objects {
		e.Objects[i].Charge = slices.Clone(e.Objects[i].Charge)
	}
	return e
}

// objectMayBe says once more whether an object may be.
func objectMayBe(o api.Object) bool {
	if o.Version <= 0 || !asText.MatchString(textOf(o.Key)) || o.Class != "" && !asLabel.MatchString(o.Class) || len(o.Charge) > 16 {
		return false
	}
	var names []string
	for _, r := range o.Charge {
		if r.N < 0 || !asLabel.MatchString(r.Name) {
			return false
		}
		names = append(names, r.Name)
	}
	return sort.StringsAreSorted(names) && len(slices.Compact(names)) == len(o.Charge)
}

// expected says once more, in another way, which version an event has, and whether it may be.
func expected(e api.Event) (int64, bool) {
	switch int(e.Kind) {
	case 0:
		if objectMayBe(e.Object) {
			return e.Object.Version, true
		}
	case 1:
		if asText.MatchString(textOf(e.Object.Key)) && e.Object.Version > 0 {
			return e.Object.Version, true
		}
	case 2:
		if e.Version < 0 || len(e.Objects) > 1000 {
			return 0, false
		}
		var texts []string
		for _, o := range e.Objects {
			if !objectMayBe(o) || o.Version > e.Version {
				return 0, false
			}
			texts = append(texts, textOf(o.Key))
		}
		if sort.StringsAreSorted(texts) && len(slices.Compact(texts)) == len(e.Objects) {
			return e.Version, true
		}
	case 3:
		if e.Version >= 0 {
			return e.Version, true
		}
	}
	return 0, false
}

// told holds what Right and Version tell against what they should.
func told(t *testing.T, e api.Event, version int64, may bool) {
	t.Helper()
	want := api.OK
	if !may {
		version, want = 0, api.ErrArg
	}
	v, err := event.Version(e)
	if v != version || err != want || event.Right(e) != may {
		t.Errorf("%.200s: %d %d %v, not %d %d", wholeEvent(e), v, err, event.Right(e), version, want)
	}
}

func may(t *testing.T, e api.Event, version int64) {
	t.Helper()
	told(t, e, version, true)
}

func mayNot(t *testing.T, e api.Event) {
	t.Helper()
	told(t, e, 0, false)
}

// wrongKeys are keys that may not be, each for a reason of its own.
func wrongKeys() []api.Key {
	l := []api.Key{{}}
	for _, s := range []string{"", "-", "-a", "a-", long24 + "y", "A", "a b", "a/b", "é", "\xff", "a\x00"} {
		l = append(l, key(s, "b", "c"), key("a", s, "c"), key("a", "b", s), key(s, s, s))
	}
	return l
}

// P7.1, Right and Version: Puts, which are what their objects are.
func TestPuts(t *testing.T) {
	for _, n := range []int64{1, 2, 3, math.MaxInt64} {
		may(t, put(with(func(o *api.Object) { o.Version = n })), n)
		may(t, put(api.Object{Key: key("a", "b", "c"), Version: n}), n)
	}
	for _, n := range []int64{0, -1, math.MinInt64} {
		mayNot(t, put(with(func(o *api.Object) { o.Version = n })))
	}
	for _, k := range wrongKeys() {
		mayNot(t, put(with(func(o *api.Object) { o.Key = k })))
	}
	mayNot(t, api.Event{})
	mayNot(t, put(odd()))
	mayNot(t, put(with(func(o *api.Object) { o.Class = "H" })))
	mayNot(t, put(with(func(o *api.Object) { o.Charge = []api.Resource{res("a", -1)} })))
	mayNot(t, put(with(func(o *api.Object) { o.Charge = []api.Resource{res("b", 1), res("a", 1)} })))
	mayNot(t, put(with(func(o *api.Object) { o.Charge = []api.Resource{res("a", 1), res("a", 1)} })))
}

// P7.1, Right and Version: Deletes, at 0, at 1, and above; of the object the key and the version count alone.
func TestDeletes(t *testing.T) {
	for _, n := range []int64{1, 2, 3, math.MaxInt64} {
		for _, o := range []api.Object{plain(), odd(), {Key: key("a", "b", "c")}, {Key: key(long24, long24, long24)}} {
			o.Version = n
			may(t, gone(o), n)
		}
	}
	for _, n := range []int64{0, -1, math.MinInt64} {
		for _, o := range []api.Object{plain(), odd(), {Key: key("a", "b", "c")}} {
			o.Version = n
			mayNot(t, gone(o))
			// The event's own field is not what a Delete's version is.
			mayNot(t, api.Event{Kind: api.Delete, Object: o, Version: 5})
		}
	}
	for _, k := range wrongKeys() {
		mayNot(t, gone(with(func(o *api.Object) { o.Key = k })))
	}
	mayNot(t, api.Event{Kind: api.Delete})
	mayNot(t, api.Event{Kind: api.Delete, Version: 1})
}

// P7.1, Right and Version: Bookmarks, at 0, below, and above.
func TestBookmarks(t *testing.T) {
	for _, n := range []int64{0, 1, 2, math.MaxInt64} {
		may(t, mark(n), n)
	}
	for _, n := range []int64{-1, -2, math.MinInt64} {
		mayNot(t, mark(n))
	}
}

// P7.1, Right and Version: Relists of nothing, nil and empty, at each version.
func TestRelistsOfNothing(t *testing.T) {
	for _, l := range [][]api.Object{nil, {}} {
		for _, n := range []int64{0, 1, 2, math.MaxInt64} {
			may(t, relist(n, l...), n)
		}
		for _, n := range []int64{-1, -2, math.MinInt64} {
			mayNot(t, relist(n, l...))
		}
	}
}

// P7.1, Right and Version: Relists of 999, 1000, 1001, and more.
func TestRelistsByLength(t *testing.T) {
	for _, n := range []int{1, 2, 16, 999, 1000} {
		may(t, relist(7, many(n)...), 7)
		may(t, relist(math.MaxInt64, many(n)...), math.MaxInt64)
	}
	for _, n := range []int{1001, 1002, 2000} {
		mayNot(t, relist(7, many(n)...))
		mayNot(t, relist(math.MaxInt64, many(n)...))
	}
}

// P7.1, Right and Version: Relists whose objects have a version that is just the event's, or one more, wherever they stand.
func TestRelistsByVersion(t *testing.T) {
	for i := range 3 {
		for _, n := range []int64{1, 2, 3, 1000, math.MaxInt64} {
			l := []api.Object{named("a", "b", "c", 1), named("a", "b", "d", 1), named("a", "b", "e", 1)}
			l[i].Version = n
			may(t, relist(n, l...), n)
			if n > 1 {
				mayNot(t, relist(n-1, l...))
			}
			if n < math.MaxInt64 {
				may(t, relist(n+1, l...), n+1)
			}
			mayNot(t, relist(0, l...))
			mayNot(t, relist(-1, l...))
			mayNot(t, relist(math.MinInt64, l...))
		}
		for _, n := range []int64{0, -1, math.MinInt64} {
			l := []api.Object{named("a", "b", "c", 1), named("a", "b", "d", 1), named("a", "b", "e", 1)}
			l[i].Version = n
			mayNot(t, relist(9, l...))
			mayNot(t, relist(0, l[i]))
			mayNot(t, relist(-1, l[i]))
			mayNot(t, relist(math.MinInt64, l[i]))
		}
	}
}

// P7.1, Right and Version: Relists whose keys do not rise, or are one, where going by parts would tell otherwise, too.
func TestRelistsByKeys(t *testing.T) {
	for _, c := range []struct{ a, b api.Key }{
		{key("a", "b", "c"), key("a", "b", "d")},
		{key("a", "b", "z"), key("a", "c", "a")},
		{key("a", "z", "z"), key("b", "a", "a")},
		{key("a", "b", "c"), key("a", "b", "cc")},
		{key("a", "b", "10"), key("a", "b", "9")},
		{key("a-b", "z", "z"), key("a", "a", "a")},
		{key("a", "b-c", "z"), key("a", "b", "a")},
		{key("a", "z", "z"), key("a0", "a", "a")},
	} {
		a, b := with(func(o *api.Object) { o.Key = c.a }), with(func(o *api.Object) { o.Key = c.b })
		first, last := named("0", "0", "0", 1), named("z", "z", "z", 1)
		may(t, relist(3, a, b), 3)
		may(t, relist(3, first, a, b, last), 3)
		mayNot(t, relist(3, b, a))
		mayNot(t, relist(3, a, a))
		mayNot(t, relist(3, a, b, b))
		mayNot(t, relist(3, a, a, b))
		mayNot(t, relist(3, a, b, a))
		mayNot(t, relist(3, first, b, a, last))
		mayNot(t, relist(3, last, a, b))
		mayNot(t, relist(3, a, b, first))
	}
	// One key is one, even where all else is another.
	mayNot(t, relist(9, named("a", "b", "c", 1), with(func(o *api.Object) { *o = api.Object{Key: key("a", "b", "c"), Version: 2} })))
	for _, at := range []int{1, 2, 500, 999} {
		l := many(1000)
		l[at].Key = l[at-1].Key
		mayNot(t, relist(7, l...))
		l = many(1000)
		l[at], l[at-1] = l[at-1], l[at]
		mayNot(t, relist(7, l...))
	}
}

// P7.1, Right and Version: a Relist one of whose objects may not be, wherever it stands.
func TestRelistsOfWhatMayNotBe(t *testing.T) {
	wrong := []api.Object{
		{},
		odd(),
		with(func(o *api.Object) { o.Version = 0 }),
		with(func(o *api.Object) { o.Class = "H" }),
		with(func(o *api.Object) { o.Charge = []api.Resource{res("a", -1)} }),
		with(func(o *api.Object) { o.Charge = []api.Resource{res("a", 1), res("a", 1)} }),
		with(func(o *api.Object) { o.Charge = slices.Repeat([]api.Resource{res("a", 1)}, 17) }),
	}
	for _, k := range wrongKeys() {
		wrong = append(wrong, with(func(o *api.Object) { o.Key = k }))
	}
	first, last := named("0", "0", "0", 1), named("z", "z", "z", 1)
	for _, o := range wrong {
		mayNot(t, relist(9, o))
		mayNot(t, relist(9, o, last))
		mayNot(t, relist(9, first, o))
		mayNot(t, relist(9, first, o, last))
	}
}

// P7.1, Right and Version: kinds below 0, and of 4 and more, whatever the event has.
func TestKindsThatAreNone(t *testing.T) {
	for _, kind := range []api.Kind{-1, -2, 4, 5, 256, 1 << 32, math.MaxInt, math.MinInt} {
		for _, e := range []api.Event{{}, put(plain()), gone(plain()), relist(3, plain()), relist(0), mark(5), {Object: plain(), Version: 5, Objects: []api.Object{plain()}}} {
			e.Kind = kind
			mayNot(t, e)
		}
	}
}

// P7.1, Right and Version: what an event has beside what its kind reads counts not.
func TestWhatCountsNot(t *testing.T) {
	objects := []api.Object{{}, plain(), odd(), with(func(o *api.Object) { o.Version = 99 }), with(func(o *api.Object) { o.Version = -1 })}
	lists := [][]api.Object{nil, {}, {plain()}, {plain(), plain()}, {odd()}, {{}}, many(1001), {named("b", "b", "b", 9), named("a", "a", "a", 99)}}
	for _, n := range []int64{0, 1, 3, 5, 99, -1, math.MaxInt64, math.MinInt64} {
		for _, l := range lists {
			may(t, api.Event{Kind: api.Put, Object: plain(), Version: n, Objects: l}, 3)
			may(t, api.Event{Kind: api.Delete, Object: plain(), Version: n, Objects: l}, 3)
			may(t, api.Event{Kind: api.Delete, Object: odd(), Version: n, Objects: l}, 3)
			mayNot(t, api.Event{Kind: api.Put, Object: odd(), Version: n, Objects: l})
			mayNot(t, api.Event{Kind: api.Delete, Object: objects[4], Version: n, Objects: l})
			for _, o := range objects {
				may(t, api.Event{Kind: api.Bookmark, Object: o, Version: 5, Objects: l}, 5)
				mayNot(t, api.Event{Kind: api.Bookmark, Object: o, Version: -5, Objects: l})
			}
		}
	}
	for _, o := range objects {
		may(t, api.Event{Kind: api.Relist, Object: o, Version: 5, Objects: []api.Object{plain()}}, 5)
		may(t, api.Event{Kind: api.Relist, Object: o}, 0)
		mayNot(t, api.Event{Kind: api.Relist, Object: o, Version: 2, Objects: []api.Object{plain()}})
	}
}

// all are events of each kind, with each of some objects, versions, and lists.
func all() []api.Event {
	a, b := named("a", "b", "c", 1), named("a", "b", "d", 2)
	objects := []api.Object{{}, a, plain(), odd(), with(func(o *api.Object) { o.Version = 0 }), with(func(o *api.Object) { o.Key.Name = "" })}
	lists := [][]api.Object{nil, {}, {a}, {b}, {a, b}, {b, a}, {a, a}, {odd()}, {{}}, {a, b, plain()}, {a, plain(), b}}
	var l []api.Event
	for kind := api.Kind(-1); kind <= 4; kind++ {
		for _, o := range objects {
			for _, version := range []int64{0, 1, 2, 3, -1, math.MaxInt64, math.MinInt64} {
				for _, list := range lists {
					l = append(l, copied(api.Event{Kind: kind, Object: o, Version: version, Objects: list}))
				}
			}
		}
	}
	return l
}

// drawn are events, many of which may be.
func drawn(count int) []api.Event {
	r := rand.New(rand.NewSource(7))
	label := func() string {
		if r.Intn(200) == 0 {
			return []string{"", "-a", "A", "a/b", long24 + "y", "\xff"}[r.Intn(6)]
		}
		return []string{"a", "b", "a-b", "a0", "zoo", "root", long24}[r.Intn(7)]
	}
	number := func() int64 {
		n := r.Int63() >> uint(r.Intn(63))
		if r.Intn(20) == 0 {
			n = -n
		}
		return n
	}
	object := func() api.Object {
		o := api.Object{Key: key(label(), label(), label()), Version: int64(r.Intn(20)) + 1, Terminating: r.Intn(2) == 0, Best: r.Intn(2) == 0}
		if r.Intn(100) == 0 {
			o.Version = number()
		}
		if r.Intn(2) == 0 {
			o.Class = label()
		}
		for _, name := range []string{"cpu", "mem", "objects"} {
			if r.Intn(2) == 0 {
				o.Charge = append(o.Charge, res(name, int64(r.Intn(9))))
			}
		}
		return o
	}
	var l []api.Event
	for range count {
		e := api.Event{Kind: api.Kind(r.Intn(4)), Object: object(), Version: number()}
		for range r.Intn(7) {
			e.Objects = append(e.Objects, object())
		}
		if r.Intn(3) != 0 {
			sort.Slice(e.Objects, func(i, j int) bool { return textOf(e.Objects[i].Key) < textOf(e.Objects[j].Key) })
		}
		if r.Intn(40) == 0 {
			e.Kind = api.Kind(r.Intn(10) - 5)
		}
		l = append(l, e)
	}
	return l
}

// P7.1, Right and Version: all events of some parts, and events that are drawn.
func TestAllAndDrawnEvents(t *testing.T) {
	count := map[api.Kind]int{}
	for _, e := range append(all(), drawn(40000)...) {
		version, may := expected(e)
		if may {
			count[e.Kind]++
		}
		told(t, e, version, may)
	}
	for kind := api.Put; kind <= api.Bookmark; kind++ {
		if count[kind] < 2000 {
			t.Errorf("only %d of the events of kind %d may be", count[kind], kind)
		}
	}
	if len(count) != 4 {
		t.Errorf("%v: other kinds may be", count)
	}
}

// changes are what makes another event of one that has two objects, each in one thing alone.
func changes() []func(e *api.Event) {
	return []func(e *api.Event){
		func(e *api.Event) { e.Kind = 1 - e.Kind },
		func(e *api.Event) { e.Kind += 4 },
		func(e *api.Event) { e.Kind -= 256 },
		func(e *api.Event) { e.Version++ },
		func(e *api.Event) { e.Version = -e.Version },
		func(e *api.Event) { e.Object = api.Object{} },
		func(e *api.Event) { e.Object.Key.Space = "other" },
		func(e *api.Event) { e.Object.Key.Kind = "other" },
		func(e *api.Event) { e.Object.Key.Name = "other" },
		func(e *api.Event) { e.Object.Version++ },
		func(e *api.Event) { e.Object.Class = "other" },
		func(e *api.Event) { e.Object.Terminating = !e.Object.Terminating },
		func(e *api.Event) { e.Object.Best = !e.Object.Best },
		func(e *api.Event) { e.Object.Charge = nil },
		func(e *api.Event) { e.Object.Charge[0].N++ },
		func(e *api.Event) { e.Object.Charge[1].Name = "other" },
		func(e *api.Event) { e.Object.Charge = append(e.Object.Charge, res("zoo", 0)) },
		func(e *api.Event) { e.Objects = nil },
		func(e *api.Event) { e.Objects = e.Objects[:1] },
		func(e *api.Event) { e.Objects = e.Objects[1:] },
		func(e *api.Event) { e.Objects = append(e.Objects, api.Object{}) },
		func(e *api.Event) { e.Objects = append(e.Objects, e.Objects[1]) },
		func(e *api.Event) { e.Objects[0], e.Objects[1] = e.Objects[1], e.Objects[0] },
		func(e *api.Event) { e.Objects[1] = e.Objects[0] },
		func(e *api.Event) { e.Objects[0].Key.Name = "other" },
		func(e *api.Event) { e.Objects[1].Version++ },
		func(e *api.Event) { e.Objects[1].Class = "other" },
		func(e *api.Event) { e.Objects[0].Terminating = !e.Objects[0].Terminating },
		func(e *api.Event) { e.Objects[1].Best = !e.Objects[1].Best },
		func(e *api.Event) { e.Objects[1].Charge = nil },
		func(e *api.Event) { e.Objects[0].Charge[1].N++ },
		func(e *api.Event) { e.Objects[1].Charge[0].Name = "other" },
	}
}

// full is an event of a kind, with something in each of its fields.
func full(kind api.Kind) api.Event {
	return api.Event{Kind: kind, Object: plain(), Version: 9, Objects: []api.Object{named("a", "b", "c", 4), named("a", "b", "d", 5)}}
}

// P7.1, Same: two that differ in one thing alone, whether it counts for their kind or not.
func TestSame(t *testing.T) {
	for kind := api.Kind(-2); kind <= 5; kind++ {
		l := []api.Event{full(kind), {Kind: kind}}
		for _, change := range changes() {
			e := full(kind)
			change(&e)
			l = append(l, e)
		}
		for _, a := range l {
			for _, b := range l {
				if want := wholeEvent(a) == wholeEvent(b); event.Same(a, b) != want || event.Same(b, a) != want || event.Same(a, copied(b)) != want {
					t.Errorf("%s\n%s: not %v", wholeEvent(a), wholeEvent(b), want)
				}
			}
		}
		for _, e := range l[1:] {
			if event.Same(full(kind), e) || event.Same(e, full(kind)) {
				t.Errorf("%s is another one", wholeEvent(e))
			}
		}
	}
}

// P7.1, Same: of some events that may be, and that may not, just those are the same that are one in all.
func TestSameOfAll(t *testing.T) {
	l := slices.Concat(all(), drawn(500))
	r := rand.New(rand.NewSource(8))
	r.Shuffle(len(l), func(i, j int) { l[i], l[j] = l[j], l[i] })
	l = l[:800]
	texts := make([]string, len(l))
	for i, e := range l {
		texts[i] = wholeEvent(e)
	}
	for i, a := range l {
		for j, b := range l {
			if event.Same(a, b) != (texts[i] == texts[j]) {
				t.Fatalf("%s\n%s: %v", texts[i], texts[j], event.Same(a, b))
			}
		}
	}
}

// Rule 6: lists that are nil, and lists that are empty, are one, wherever they stand.
func TestNilAndEmptyLists(t *testing.T) {
	charges := [][]api.Resource{nil, {}}
	lists := [][]api.Object{nil, {}}
	for kind := api.Put; kind <= api.Bookmark; kind++ {
		for i := range 8 {
			a, b := full(kind), full(kind)
			a.Object.Charge, b.Object.Charge = charges[i&1], charges[1-i&1]
			a.Objects[0].Charge, b.Objects[0].Charge = charges[i>>1&1], charges[1-i>>1&1]
			same := func() {
				t.Helper()
				if !event.Same(a, b) || !event.Same(b, a) || !event.Same(event.Own(a), b) || !event.Same(a, event.Own(b)) || !event.Right(a) || !event.Right(b) {
					t.Errorf("kind %d, %d: not the same", kind, i)
				}
			}
			same()
			a.Objects, b.Objects = lists[i>>2], lists[1-i>>2]
			same()
		}
	}
	for _, l := range lists {
		if s := event.Sorted(l); len(s) != 0 {
			t.Errorf("of nothing: %v", s)
		}
	}
	for _, c := range charges {
		l := event.Sorted([]api.Object{{Key: key("b", "b", "b"), Charge: c}, {Key: key("a", "a", "a"), Charge: c}})
		if len(l) != 2 || l[0].Key.Space != "a" || len(l[0].Charge) != 0 || len(l[1].Charge) != 0 {
			t.Errorf("%v", l)
		}
	}
}

// scribble writes into all that an event's lists have, and behind them.
func scribble(e api.Event) {
	charge := func(l []api.Resource) {
		for i := range l {
			l[i] = res("changed", -7)
		}
		_ = append(l, res("behind", -8))
	}
	charge(e.Object.Charge)
	for i := range e.Objects {
		charge(e.Objects[i].Charge)
		e.Objects[i] = odd()
	}
	_ = append(e.Objects, odd())
}

// P7.1, Own: all as it was, right or wrong, with lists of its own, whichever of both is changed then.
func TestOwn(t *testing.T) {
	l := append(all(), drawn(3000)...)
	l = append(l, api.Event{}, relist(7, many(1001)...), api.Event{Kind: 9, Objects: many(5000)})
	for kind := api.Kind(-1); kind <= 4; kind++ {
		l = append(l, full(kind))
		for _, change := range changes() {
			e := full(kind)
			change(&e)
			l = append(l, e)
		}
	}
	for _, e := range l {
		e = copied(e)
		was := wholeEvent(e)
		x, y := event.Own(e), event.Own(e)
		if wholeEvent(x) != was || wholeEvent(y) != was || !event.Same(x, e) || wholeEvent(e) != was {
			t.Fatalf("%s: %s", was, wholeEvent(x))
		}
		scribble(x)
		if wholeEvent(e) != was || wholeEvent(y) != was {
			t.Fatalf("%s: shares a list", was)
		}
		scribble(e)
		if wholeEvent(y) != was {
			t.Fatalf("%s: keeps a list that was handed in", was)
		}
	}
}

// P7.1, Own, and rule 4: lists that were one list in what came are lists of their own in what is answered.
func TestOwnPartsShared(t *testing.T) {
	charge := []api.Resource{res("cpu", 1)}
	o := with(func(o *api.Object) { o.Charge = charge })
	e := api.Event{Kind: api.Relist, Version: 9, Object: o, Objects: []api.Object{o, o}}
	x := event.Own(e)
	x.Objects[0].Charge[0].N = 2
	if x.Objects[1].Charge[0].N != 1 || x.Object.Charge[0].N != 1 {
		t.Error("Own: two lists share memory")
	}
	l := event.Sorted([]api.Object{o, o})
	l[0].Charge[0].N = 2
	if l[1].Charge[0].N != 1 || charge[0].N != 1 {
		t.Error("Sorted: two lists share memory")
	}
}

// stable says once more, in another way, how objects are sorted: each goes behind all those that came ahead of it and have no greater text.
func stable(l []api.Object) []api.Object {
	var done []api.Object
	for _, o := range l {
		at := len(done)
		for at > 0 && textOf(o.Key) < textOf(done[at-1].Key) {
			at--
		}
		done = slices.Insert(done, at, o)
	}
	return done
}

// sorts holds what Sorted tells against what it should, and looks at its input.
func sorts(t *testing.T, l []api.Object, want []api.Object) {
	t.Helper()
	was, wanted := wholes(l), wholes(want)
	got := event.Sorted(l)
	if wholes(got) != wanted {
		t.Fatalf("%s: %s, not %s", was, wholes(got), wanted)
	}
	if wholes(l) != was {
		t.Fatalf("%s: written into", was)
	}
	for i := 1; i < len(got); i++ {
		if textOf(got[i].Key) < textOf(got[i-1].Key) {
			t.Fatalf("%d: ahead of the one ahead", i)
		}
	}
}

// P7.2: by texts, not by parts; those of one key, and those whose keys would have one text, as they came.
func TestSorted(t *testing.T) {
	a, b, c := named("a-b", "z", "z", 1), named("a", "a", "a", 1), named("a0", "a", "a", 1)
	for _, l := range [][]api.Object{{a, b, c}, {a, c, b}, {b, a, c}, {b, c, a}, {c, a, b}, {c, b, a}} {
		sorts(t, l, []api.Object{a, b, c})
	}
	sorts(t, []api.Object{a}, []api.Object{a})
	// Neither versions nor what else they have put objects of one key in another order.
	one := []api.Object{named("a", "a", "a", 7), named("a", "a", "a", 1), {Key: key("a", "a", "a")}, named("a", "a", "a", 7), named("a", "a", "a", -1), named("a", "a", "a", 9)}
	sorts(t, one, one)
	last := named("0", "a", "a", 5)
	sorts(t, append(slices.Clone(one), last), append([]api.Object{last}, one...))
	// Keys that may not be stand where their texts would; two of one text are none ahead of the other.
	x, y, z := named("a/b", "c", "d", 1), named("a", "b/c", "d", 2), named("a", "b", "c/d", 3)
	for _, l := range [][]api.Object{{x, y, z}, {x, z, y}, {y, x, z}, {y, z, x}, {z, x, y}, {z, y, x}} {
		sorts(t, l, l)
		sorts(t, append(slices.Clone(l), api.Object{}), append([]api.Object{{}}, l...))
		sorts(t, append([]api.Object{named("\xff", "a", "a", 1)}, l...), append(slices.Clone(l), named("\xff", "a", "a", 1)))
	}
}

// P7.2: all lists of up to five of some objects.
func TestSortedOfAllShortLists(t *testing.T) {
	some := []api.Object{named("a", "b", "c", 1), named("a", "b", "c", 2), named("a-b", "b", "c", 1), named("b", "a", "a", 1), named("a", "b/c", "d", 1), named("a/b", "c", "d", 2), {}}
	lists := [][]api.Object{nil}
	for from, length := 0, 0; length < 5; length++ {
		to := len(lists)
		for _, l := range lists[from:to] {
			for _, o := range some {
				lists = append(lists, append(slices.Clone(l), o))
			}
		}
		from = to
	}
	for _, l := range lists {
		sorts(t, l, stable(l))
	}
}

// P7.2: long lists, with many of one key, and what may be a Relist's, which is as it was.
func TestSortedOfLongLists(t *testing.T) {
	r := rand.New(rand.NewSource(9))
	for _, keys := range []int{1, 2, 10, 100, 100000} {
		for _, n := range []int{10, 100, 1000, 3000} {
			var l []api.Object
			for i := range n {
				l = append(l, named("a", "b", strconv.Itoa(r.Intn(keys)), int64(i)))
			}
			sorts(t, l, stable(l))
		}
	}
	rising := many(1000)
	if !event.Right(relist(7, rising...)) {
		t.Fatal("may be a Relist's")
	}
	sorts(t, rising, rising)
	mixed := slices.Clone(rising)
	r.Shuffle(len(mixed), func(i, j int) { mixed[i], mixed[j] = mixed[j], mixed[i] })
	sorts(t, mixed, rising)
	slices.Reverse(mixed)
	sorts(t, mixed, rising)
	if !event.Right(relist(7, event.Sorted(mixed)...)) {
		t.Error("sorted keys, none of them one, rise")
	}
}

// P7.2: of events that are drawn, a Relist's objects are as they were; what is sorted once is sorted.
func TestSortedOfDrawn(t *testing.T) {
	relists := 0
	for _, e := range append(all(), drawn(5000)...) {
		sorts(t, e.Objects, stable(e.Objects))
		if e.Kind = api.Relist; event.Right(e) {
			relists++
			sorts(t, e.Objects, e.Objects)
		}
		once := event.Sorted(e.Objects)
		sorts(t, once, once)
	}
	if relists < 1000 {
		t.Errorf("only %d Relists may be", relists)
	}
}

// Sorted, and rule 4: what is answered shares no memory with what came, nor with another answer.
func TestSortedSharesNothing(t *testing.T) {
	for _, l := range [][]api.Object{{}, {plain()}, many(3), {named("b", "b", "b", 1), named("a", "a", "a", 1)}, {odd(), {}}} {
		l = copied(relist(0, l...)).Objects
		x, y := event.Sorted(l), event.Sorted(l)
		was, sorted := wholes(l), wholes(y)
		scribble(relist(0, x...))
		if wholes(l) != was || wholes(y) != sorted {
			t.Errorf("%s: shares a list", was)
		}
		scribble(relist(0, l...))
		if wholes(y) != sorted {
			t.Errorf("%s: keeps a list that was handed in", was)
		}
	}
}

// behind is the event, with more behind each of its lists in their memory, and a text of all of that.
func behind(e api.Event) (api.Event, func() string) {
	var charges [][]api.Resource
	more := func(o api.Object) api.Object {
		l := append(slices.Clone(o.Charge), res("zz", 1), res("A", -1))
		charges = append(charges, l)
		o.Charge = l[:len(o.Charge):len(l)]
		return o
	}
	e.Object = more(e.Object)
	var objects []api.Object
	for _, o := range e.Objects {
		objects = append(objects, more(o))
	}
	objects = append(objects, more(named("0", "0", "0", 99)), more(odd()))
	e.Objects = objects[:len(e.Objects):len(objects)]
	return e, func() string {
		text := wholes(objects)
		for _, l := range charges {
			text += whole(api.Object{Charge: l})
		}
		return text
	}
}

// Rule 4: what is handed in stays as it is, and what lies behind a list is neither read nor written.
func TestWhatLiesBehind(t *testing.T) {
	for _, e := range append(drawn(500), full(api.Put), full(api.Relist), relist(7, many(999)...), relist(7, many(1000)...), relist(7, many(1001)...)) {
		long, text := behind(e)
		was := text()
		v, err := event.Version(long)
		w, want := event.Version(e)
		if v != w || err != want || event.Right(long) != event.Right(e) || !event.Same(long, e) || !event.Same(e, long) {
			t.Errorf("%s: what lies behind is read", wholeEvent(e))
		}
		own, sorted := event.Own(long), event.Sorted(long.Objects)
		if wholeEvent(own) != wholeEvent(e) || wholes(sorted) != wholes(stable(e.Objects)) {
			t.Errorf("%s: what lies behind is read", wholeEvent(e))
		}
		scribble(own)
		scribble(relist(0, sorted...))
		if text() != was {
			t.Errorf("%s: written into", wholeEvent(e))
		}
	}
}

// P1 and P2: every call ends without a panic, and tells the same of the same, whatever it was asked between.
func TestCallsEndAndTellTheSame(t *testing.T) {
	type answers struct {
		right, same bool
		version     int64
		err         api.Errno
		own, sorted string
	}
	ask := func(a, b api.Event) (x answers) {
		x.version, x.err = event.Version(a)
		x.right, x.same = event.Right(a), event.Same(a, b)
		x.own, x.sorted = wholeEvent(event.Own(a)), wholes(event.Sorted(a.Objects))
		return x
	}
	long := strings.Repeat("a", 1<<20)
	huge := with(func(o *api.Object) { o.Key, o.Class = key(long, long, long), long })
	many := slices.Repeat([]api.Object{plain(), {}, odd()}, 20000)
	l := append(drawn(300), api.Event{}, full(api.Relist), put(huge), gone(huge), relist(9, huge, huge, huge), relist(9, many...), put(with(func(o *api.Object) { o.Charge = slices.Repeat(o.Charge, 1<<16) })))
	first := make([]answers, len(l))
	for i, e := range l {
		first[i] = ask(e, l[len(l)-1-i])
	}
	for j := range l {
		i := len(l) - 1 - j
		if ask(l[i], l[len(l)-1-i]) != first[i] {
			t.Errorf("%d: told otherwise", i)
		}
	}
}
