package store_test

import (
	"math"
	"slices"
	"strconv"
	"strings"
	"testing"

	"scutage/api"
	"scutage/event"
	"scutage/store"
)

func key(space, kind, name string) api.Key {
	return api.Key{Space: space, Kind: kind, Name: name}
}

func res(name string, n int64) api.Resource { return api.Resource{Name: name, N: n} }

// pod is an object that may be, with something in each of its fields; what it has of cpu tells it from others of its key.
func pod(name string, cpu int64) api.Object {
	return api.Object{Key: key("a", "pod", name), Version: 3, Class: "high", Terminating: true, Best: true, Charge: []api.Resource{res("cpu", cpu), res("mem", 0)}}
}

// with is a pod, changed.
func with(change func(o *api.Object)) api.Object {
	o := pod("x", 2)
	change(&o)
	return o
}

// puts puts objects that may be, and tells the version of the last one.
func puts(t *testing.T, s *store.Store, l ...api.Object) int64 {
	t.Helper()
	var last int64
	for _, o := range l {
		v, err := s.Put(o)
		if err != api.OK || v != last+1 && last > 0 {
			t.Fatalf("Put %s: %d %d", textOf(o.Key), v, err)
		}
		last = v
	}
	return last
}

// goes deletes a key's object, which must be there.
func goes(t *testing.T, s *store.Store, name string) {
	t.Helper()
	was := s.Version()
	if v, err := s.Delete(pod(name, 1).Key); v != was+1 || err != api.OK {
		t.Fatalf("Delete %s: %d %d", name, v, err)
	}
}

// look is all that a store tells, as a text.
func look(s *store.Store) string {
	return strconv.FormatInt(s.Version(), 10) + "\n" + whole(s.Log()) + "\n" + whole(s.Snapshot())
}

// refuses tries a write, which must answer an error, and change nothing.
func refuses(t *testing.T, s *store.Store, want api.Errno, try func() (int64, api.Errno)) {
	t.Helper()
	was := look(s)
	if v, err := try(); v != 0 || err != want {
		t.Errorf("%d %d, not %d", v, err, want)
	}
	if is := look(s); is != was {
		t.Errorf("an error changes\n%.2000s to\n%.2000s", was, is)
	}
}

// P9.1, New: nothing is there; the log is empty, the snapshot a Relist of nothing at 0, which may be.
func TestNew(t *testing.T) {
	s := store.New()
	if s == nil {
		t.Fatal("nil")
	}
	for _, k := range append(wrongKeys(), key("a", "pod", "x")) {
		if o, is := s.Get(k); is || whole(o) != whole(api.Object{}) {
			t.Errorf("Get %.100q: %.200q %v", textOf(k), whole(o), is)
		}
	}
	if s.Version() != 0 || len(s.Log()) != 0 {
		t.Errorf("%d %s", s.Version(), whole(s.Log()))
	}
	e := s.Snapshot()
	if whole(e) != whole(api.Event{Kind: api.Relist}) || !event.Right(e) {
		t.Errorf("Snapshot: %s", whole(e))
	}
	puts(t, s, pod("x", 1))
	if other := store.New(); other.Version() != 0 || len(other.Log()) != 0 {
		t.Error("another new one has what the first one has")
	}
}

// P9.1, Put, with the versions of the store, the object, and the event behind each: of an object that is new, of one whose key is there, of the very same one, and of another key.
func TestPut(t *testing.T) {
	s := store.New()
	for i, o := range []api.Object{pod("x", 2), pod("x", 5), pod("x", 5), pod("y", 1), {Key: key("a", "pod", "x")}} {
		want := int64(i + 1)
		if v, err := s.Put(o); v != want || err != api.OK {
			t.Fatalf("%d: %d %d", i, v, err)
		}
		o.Version = want
		if got, is := s.Get(o.Key); !is || whole(got) != whole(o) {
			t.Errorf("%d: Get: %s, not %s", i, whole(got), whole(o))
		}
		l := s.Log()
		if len(l) != i+1 || whole(l[i]) != whole(api.Event{Kind: api.Put, Object: o}) || !event.Right(l[i]) {
			t.Errorf("%d: Log: %s", i, whole(l))
		}
		if s.Version() != want {
			t.Errorf("%d: Version: %d", i, s.Version())
		}
	}
	want := []api.Object{{Key: key("a", "pod", "x"), Version: 5}, pod("y", 1)}
	want[1].Version = 4
	if l := s.Snapshot().Objects; whole(l) != whole(want) {
		t.Errorf("Snapshot: %s", whole(l))
	}
}

// P9.1: the version that an object comes with counts not, whatever it is.
func TestPutOfAnyVersion(t *testing.T) {
	s := store.New()
	for i, n := range []int64{0, -1, 1, 3, 4, 1000, math.MinInt64, math.MaxInt64, 5, -math.MaxInt64} {
		o := pod("x", 2)
		o.Version = n
		v, err := s.Put(o)
		if err != api.OK || v != int64(i+1) || s.Version() != v {
			t.Errorf("%d: %d %d", n, v, err)
		}
		if got, is := s.Get(o.Key); !is || got.Version != v {
			t.Errorf("%d: Get: %s", n, whole(got))
		}
		if l := s.Log(); l[i].Object.Version != v || l[i].Version != 0 {
			t.Errorf("%d: Log: %s", n, whole(l[i]))
		}
	}
}

// wrongKeys are keys that may not be.
func wrongKeys() []api.Key {
	return []api.Key{{}, key("", "b", "c"), key("a", "", "c"), key("a", "b", ""), key("A", "b", "c"), key("a", "b-", "c"), key("a", "-b", "c"), key("a", "b", "c/d"), key("a/b", "c", "d"), key("a", "b", "é"), key("a", "b", "\xff"), key("a", "b", "abcdefghijklmnopqrstuvwxy"), key(strings.Repeat("a", 1<<20), "b", "c")}
}

// charged are so many resources whose names rise.
func charged(count int) []api.Resource {
	var l []api.Resource
	for i := range count {
		l = append(l, res("r"+strconv.Itoa(100+i), 0))
	}
	return l
}

// wrongObjects are objects that may not be, whatever their versions.
func wrongObjects() []api.Object {
	l := []api.Object{
		with(func(o *api.Object) { o.Class = "High" }),
		with(func(o *api.Object) { o.Class = "-" }),
		with(func(o *api.Object) { o.Class = strings.Repeat("c", 25) }),
		with(func(o *api.Object) { o.Charge = charged(17) }),
		with(func(o *api.Object) { o.Charge[0].N = -1 }),
		with(func(o *api.Object) { o.Charge[1].N = math.MinInt64 }),
		with(func(o *api.Object) { o.Charge[0].Name = "" }),
		with(func(o *api.Object) { o.Charge[0].Name = "Cpu" }),
		with(func(o *api.Object) { o.Charge[1].Name = "cpu" }),
		with(func(o *api.Object) { o.Charge[1].Name = "b" }),
	}
	for _, k := range wrongKeys() {
		l = append(l, with(func(o *api.Object) { o.Key = k }))
	}
	return l
}

// P9.1: an object that may not be changes nothing, with no version, and with one that may be.
func TestPutOfWhatMayNotBe(t *testing.T) {
	for _, s := range []*store.Store{store.New(), filled(t)} {
		for _, o := range wrongObjects() {
			for _, n := range []int64{0, 1, s.Version() + 1, -1} {
				o.Version = n
				refuses(t, s, api.ErrArg, func() (int64, api.Errno) { return s.Put(o) })
			}
		}
	}
	s := store.New()
	edge := with(func(o *api.Object) {
		o.Key, o.Class, o.Charge = key(strings.Repeat("a", 24), "0", "a-b"), strings.Repeat("c", 24), charged(16)
		o.Charge[0].N, o.Version = math.MaxInt64, -1
	})
	if puts(t, s, edge) != 1 {
		t.Error("what just may be is not taken")
	}
}

// filled is a store with some objects, and some that went.
func filled(t *testing.T) *store.Store {
	t.Helper()
	s := store.New()
	puts(t, s, pod("x", 2), pod("y", 1), pod("z", 3), pod("y", 4))
	goes(t, s, "z")
	return s
}

// P9.1, Delete: of a key that has an object, that had one, that has none, and that may not be; and what comes into the log.
func TestDelete(t *testing.T) {
	s := filled(t)
	k := pod("x", 1).Key
	if v, err := s.Delete(k); v != 6 || err != api.OK || s.Version() != 6 {
		t.Errorf("%d %d", v, err)
	}
	if o, is := s.Get(k); is || whole(o) != whole(api.Object{}) {
		t.Errorf("Get: %s", whole(o))
	}
	l := s.Log()
	if want := (api.Event{Kind: api.Delete, Object: api.Object{Key: k, Version: 6}}); len(l) != 6 || whole(l[5]) != whole(want) || !event.Right(l[5]) {
		t.Errorf("Log: %s", whole(l))
	}
	if e := s.Snapshot(); len(e.Objects) != 1 || e.Objects[0].Key.Name != "y" || e.Objects[0].Version != 4 || e.Version != 6 {
		t.Errorf("Snapshot: %s", whole(e))
	}
	for _, k := range []api.Key{k, pod("z", 1).Key, key("a", "pod", "w"), key("pod", "a", "y"), key("a", "y", "pod"), key("a-", "pod", "y")} {
		want := api.ErrNone
		if k.Space == "a-" {
			want = api.ErrArg
		}
		refuses(t, s, want, func() (int64, api.Errno) { return s.Delete(k) })
	}
	for _, s := range []*store.Store{s, store.New()} {
		for _, k := range wrongKeys() {
			refuses(t, s, api.ErrArg, func() (int64, api.Errno) { return s.Delete(k) })
		}
	}
	none := store.New()
	refuses(t, none, api.ErrNone, func() (int64, api.Errno) { return none.Delete(k) })
	goes(t, s, "y")
	if e := s.Snapshot(); len(e.Objects) != 0 || e.Version != 7 || e.Kind != api.Relist {
		t.Errorf("Snapshot: %s", whole(e))
	}
}

// P9.1: a key that went comes again, as a new one; what the log tells of the old one stays.
func TestComesAgain(t *testing.T) {
	s := store.New()
	puts(t, s, pod("x", 2))
	goes(t, s, "x")
	if v, err := s.Put(pod("x", 7)); v != 3 || err != api.OK {
		t.Fatalf("%d %d", v, err)
	}
	if o, is := s.Get(pod("x", 1).Key); !is || o.Version != 3 || o.Charge[0].N != 7 {
		t.Errorf("%s", whole(o))
	}
	l := s.Log()
	if len(l) != 3 || l[0].Object.Version != 1 || l[0].Object.Charge[0].N != 2 || l[1].Kind != api.Delete || l[2].Object.Version != 3 {
		t.Errorf("%s", whole(l))
	}
}

// numbered is a key whose text rises with the number.
func numbered(n int) api.Key { return key("a", "pod", "n"+strconv.Itoa(10000+n)) }

// full is a store of so many objects.
func full(t *testing.T, count int) *store.Store {
	t.Helper()
	s := store.New()
	for n := range count {
		puts(t, s, api.Object{Key: numbered((n * 7) % count)})
	}
	return s
}

// P9.1: the 1000th object, and the 1001st; what a full store takes, and what it does not.
func TestFull(t *testing.T) {
	s := full(t, api.MaxObjects)
	if s.Version() != 1000 || len(s.Log()) != 1000 || len(s.Snapshot().Objects) != 1000 {
		t.Fatalf("%d %d", s.Version(), len(s.Snapshot().Objects))
	}
	for _, n := range []int{1000, 1001} {
		refuses(t, s, api.ErrFull, func() (int64, api.Errno) { return s.Put(api.Object{Key: numbered(n)}) })
	}
	refuses(t, s, api.ErrArg, func() (int64, api.Errno) { return s.Put(api.Object{Key: numbered(1000), Class: "-"}) })
	if _, is := s.Get(numbered(1000)); is {
		t.Error("one too many is there")
	}
	for i, n := range []int{0, 999, 500} {
		if v, err := s.Put(api.Object{Key: numbered(n), Class: "high"}); v != int64(1001+i) || err != api.OK {
			t.Errorf("%d: %d %d", n, v, err)
		}
	}
	if v, err := s.Delete(numbered(3)); v != 1004 || err != api.OK {
		t.Errorf("%d %d", v, err)
	}
	if v, err := s.Put(api.Object{Key: numbered(1000)}); v != 1005 || err != api.OK {
		t.Errorf("%d %d", v, err)
	}
	refuses(t, s, api.ErrFull, func() (int64, api.Errno) { return s.Put(api.Object{Key: numbered(3)}) })
	e := s.Snapshot()
	if len(e.Objects) != 1000 || e.Version != 1005 || !event.Right(e) {
		t.Errorf("%d objects at %d", len(e.Objects), e.Version)
	}
}

// P9.1, Snapshot: by keys' texts, which is another order than that of their parts, or of their coming; with the objects' own versions; and it may be.
func TestSnapshotByKeys(t *testing.T) {
	s := store.New()
	keys := []api.Key{key("a0", "pod", "x"), key("a", "pod", "x"), key("a-b", "pod", "x"), key("a", "pod-0", "x"), key("b", "aaa", "x"), key("a", "pod", "x-y"), key("a", "job", "z"), key("0", "z", "z")}
	for _, k := range keys {
		puts(t, s, api.Object{Key: k})
	}
	e := s.Snapshot()
	want := slices.Clone(keys)
	slices.SortFunc(want, func(a, b api.Key) int { return strings.Compare(textOf(a), textOf(b)) })
	if e.Kind != api.Relist || e.Version != 8 || len(e.Objects) != 8 || whole(e.Object) != whole(api.Object{}) || !event.Right(e) {
		t.Fatalf("%s", whole(e))
	}
	for i, o := range e.Objects {
		if o.Key != want[i] || o.Version != int64(slices.Index(keys, o.Key)+1) {
			t.Errorf("%d: %s, not %s", i, whole(o), textOf(want[i]))
		}
	}
}

// P9.1: a nil store has nothing, and takes nothing; a zero one is as a new one.
func TestNilAndZero(t *testing.T) {
	var none *store.Store
	for _, o := range append(wrongObjects(), pod("x", 1), api.Object{}) {
		if v, err := none.Put(o); v != 0 || err != api.ErrArg {
			t.Errorf("Put: %d %d", v, err)
		}
		if v, err := none.Delete(o.Key); v != 0 || err != api.ErrArg {
			t.Errorf("Delete: %d %d", v, err)
		}
		if got, is := none.Get(o.Key); is || whole(got) != whole(api.Object{}) {
			t.Errorf("Get: %.200q", whole(got))
		}
	}
	if none.Version() != 0 || len(none.Log()) != 0 || whole(none.Snapshot()) != whole(api.Event{Kind: api.Put}) {
		t.Errorf("%d %s", none.Version(), whole(none.Snapshot()))
	}
	s := &store.Store{}
	if look(s) != look(store.New()) {
		t.Error("a zero one has something")
	}
	refuses(t, s, api.ErrNone, func() (int64, api.Errno) { return s.Delete(pod("x", 1).Key) })
	if puts(t, s, pod("x", 1)) != 1 {
		t.Error("a zero one takes nothing")
	}
}
