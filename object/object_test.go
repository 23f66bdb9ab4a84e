package object_test

import (
	"math"
	"math/big"
	"math/rand"
	"regexp"
	"slices"
	"sort"
	"strconv"
	"strings"
	"testing"

	"scutage/api"
	"scutage/object"
	"scutage/vector"
	"scutage/wide"
)

const long24 = "abcdefghijklmnopqrstuvwx"

// asLabel says once more, in another way, what a label is.
var asLabel = regexp.MustCompile(`\A[a-z0-9]([a-z0-9-]{0,22}[a-z0-9])?\z`)

func res(name string, n int64) api.Resource { return api.Resource{Name: name, N: n} }

func list(l ...api.Resource) []api.Resource { return l }

// plain is an object that may be, with something in each of its fields.
func plain() api.Object {
	return api.Object{Key: api.Key{Kind: "pod", Space: "a", Name: "x"}, Version: 3, Class: "high", Terminating: true, Best: true, Charge: list(res("cpu", 2), res("mem", 0), res("objects", 5))}
}

// with is the plain one, changed.
func with(change func(o *api.Object)) api.Object {
	o := plain()
	change(&o)
	return o
}

func charged(l ...api.Resource) api.Object {
	return with(func(o *api.Object) { o.Charge = l })
}

// oddities are texts that are no labels, each for a reason of its own; "" is none of them.
func oddities() []string {
	return []string{"-", "-a", "a-", long24 + "y", "A", "aB", "H", "a b", " a", "a ", "a\n", "a\x00", "a/b", "/", "a=b", ",", "a_b", "a.b", "`", "{", "é", "\xff", "a\xff"}
}

// rising are so many resources whose names rise.
func rising(count int) []api.Resource {
	var l []api.Resource
	for i := range count {
		l = append(l, res("n"+strconv.Itoa(100+i), int64(i)))
	}
	return l
}

// mayBe says once more, in another way, whether an object may be.
func mayBe(o api.Object) bool {
	for _, s := range []string{o.Key.Kind, o.Key.Space, o.Key.Name} {
		if !asLabel.MatchString(s) {
			return false
		}
	}
	if o.Version <= 0 || o.Class != "" && !asLabel.MatchString(o.Class) || len(o.Charge) > 16 {
		return false
	}
	var names []string
	for _, r := range o.Charge {
		if !asLabel.MatchString(r.Name) || r.N < 0 {
			return false
		}
		names = append(names, r.Name)
	}
	return sort.StringsAreSorted(names) && len(slices.Compact(names)) == len(o.Charge)
}

// asBig is the number that a wide one stands for.
func asBig(w api.Wide) *big.Int {
	b := new(big.Int).Lsh(big.NewInt(w.Hi), 64)
	return b.Add(b, new(big.Int).SetUint64(w.Lo))
}

// chargeOf says once more, in another way, which text an object's charge has.
func chargeOf(o api.Object) string {
	sums := map[string]*big.Int{"objects": big.NewInt(1)}
	for _, r := range o.Charge {
		if sums[r.Name] == nil {
			sums[r.Name] = new(big.Int)
		}
		sums[r.Name].Add(sums[r.Name], big.NewInt(r.N))
	}
	var parts []string
	for name, n := range sums {
		if n.Sign() != 0 {
			parts = append(parts, name+"="+n.String())
		}
	}
	// A name may be the beginning of another one, and what follows it is behind `=`, or ahead.
	sort.Slice(parts, func(i, j int) bool { return before(parts[i]) < before(parts[j]) })
	return strings.Join(parts, ",")
}

func before(part string) string {
	name, _, _ := strings.Cut(part, "=")
	return name
}

// told says what Right and Charge tell of an object.
func told(t *testing.T, o api.Object, may bool) {
	t.Helper()
	v, e := object.Charge(o)
	if got := object.Right(o); got != may {
		t.Errorf("Right(%v): %v", o, got)
	}
	if !may {
		if len(v) != 0 || e != api.ErrArg {
			t.Errorf("Charge(%v): %v %d, not nothing and ErrArg", o, v, e)
		}
		return
	}
	if want := chargeOf(o); e != api.OK || vector.Text(v) != want || !vector.Right(v) {
		t.Errorf("Charge(%v): %v %d, not %s", o, v, e, want)
	}
}

// P5.1, Right and Charge: objects that may be, and what they ask for, written out.
func TestCharges(t *testing.T) {
	for _, c := range []struct {
		l    []api.Resource
		want string
	}{
		{nil, "objects=1"},
		{list(), "objects=1"},
		{list(res("cpu", 2)), "cpu=2,objects=1"},
		{list(res("zoo", 2)), "objects=1,zoo=2"},
		{list(res("a", 1), res("zoo", 2)), "a=1,objects=1,zoo=2"},
		{list(res("cpu", 0)), "objects=1"},
		{list(res("a", 0), res("b", 3), res("c", 0)), "b=3,objects=1"},
		{list(res("objects", 0)), "objects=1"},
		{list(res("objects", 1)), "objects=2"},
		{list(res("cpu", 2), res("objects", 3)), "cpu=2,objects=4"},
		{list(res("objects", math.MaxInt64)), "objects=9223372036854775808"},
		{list(res("cpu", math.MaxInt64), res("mem", math.MaxInt64)), "cpu=9223372036854775807,mem=9223372036854775807,objects=1"},
		{list(res("a", 1), res("a-b", 2), res("a0", 3), res("aa", 4)), "a=1,a-b=2,a0=3,aa=4,objects=1"},
		{list(res("0", 1), res("10", 2), res("9", 3), res(long24, 4)), "0=1,10=2,9=3," + long24 + "=4,objects=1"},
		{list(res("object", 1), res("objects", 2), res("objects0", 3)), "object=1,objects=3,objects0=3"},
	} {
		o := charged(c.l...)
		if v, e := object.Charge(o); vector.Text(v) != c.want || e != api.OK || !object.Right(o) {
			t.Errorf("%v: %v %d, not %s", c.l, v, e, c.want)
		}
		told(t, o, true)
	}
}

// P5.1, Right and Charge: 16 resources may be, with `objects` beside them (17 entries), or among them; 17 may not.
func TestHowManyResources(t *testing.T) {
	for count := range 40 {
		told(t, charged(rising(count)...), count <= 16)
	}
	ones := rising(16)
	for i := range ones {
		ones[i].N = 1
	}
	if v, e := object.Charge(charged(ones...)); len(v) != 17 || e != api.OK {
		t.Errorf("16 resources: %v %d", v, e)
	}
	among := append(slices.Clone(ones[:15]), res("objects", 7))
	told(t, charged(among...), true)
	if v, _ := object.Charge(charged(among...)); len(v) != 16 || vector.Get(v, "objects") != wide.Of(8) {
		t.Errorf("16 resources with objects: %v", v)
	}
	told(t, charged(append(slices.Clone(ones), res("objects", 7))...), false)
	// 17 resources are too many, even if nothing but 0 is asked for.
	nothing := rising(17)
	for i := range nothing {
		nothing[i].N = 0
	}
	told(t, charged(nothing...), false)
	told(t, charged(nothing[:16]...), true)
}

// P5.1, Right: keys, versions, classes, and flags.
func TestRightOfTheRest(t *testing.T) {
	may := func(may bool, change func(o *api.Object)) {
		t.Helper()
		told(t, with(change), may)
	}
	for _, n := range []int64{1, 2, 1000, math.MaxInt64} {
		may(true, func(o *api.Object) { o.Version = n })
	}
	for _, n := range []int64{0, -1, math.MinInt64} {
		may(false, func(o *api.Object) { o.Version = n })
	}
	may(true, func(o *api.Object) { o.Class = "" })
	may(false, func(o *api.Object) { o.Key = api.Key{} })
	for _, s := range []string{"a", "0", "low", "a-b", "a--b", "root", "objects", long24} {
		may(true, func(o *api.Object) { o.Class = s })
		may(true, func(o *api.Object) { o.Key.Kind = s })
		may(true, func(o *api.Object) { o.Key.Space = s })
		may(true, func(o *api.Object) { o.Key.Name = s })
		may(true, func(o *api.Object) { o.Charge = list(res(s, 1)) })
	}
	for _, s := range oddities() {
		may(false, func(o *api.Object) { o.Class = s })
	}
	for _, s := range append(oddities(), "") {
		may(false, func(o *api.Object) { o.Key.Kind = s })
		may(false, func(o *api.Object) { o.Key.Space = s })
		may(false, func(o *api.Object) { o.Key.Name = s })
		may(false, func(o *api.Object) { o.Charge = list(res(s, 1)) })
		may(false, func(o *api.Object) { o.Charge = list(res(s, 0)) })
		may(false, func(o *api.Object) { o.Charge = list(res("0", 1), res(s, 1)) })
		may(false, func(o *api.Object) { o.Charge = list(res(s, 1), res("zz", 1)) })
	}
	for _, flag := range []bool{false, true} {
		may(true, func(o *api.Object) { o.Terminating = flag })
		may(true, func(o *api.Object) { o.Best = flag })
	}
	told(t, api.Object{}, false)
	told(t, api.Object{Key: plain().Key, Version: 1}, true)
}

// P5.1, Right: names that do not rise, or are one; numbers below 0, wherever they stand.
func TestRightOfCharges(t *testing.T) {
	for _, l := range [][]api.Resource{
		list(res("a", 1), res("a", 1)),
		list(res("a", 0), res("a", 0)),
		list(res("objects", 1), res("objects", 1)),
		list(res("b", 1), res("a", 1)),
		list(res("b", 0), res("a", 0)),
		list(res("a0", 1), res("a-b", 1)),
		list(res("9", 1), res("10", 1)),
		list(res("aa", 1), res("a", 1)),
		list(res("a", 1), res("c", 1), res("b", 1)),
		list(res("a", 1), res("b", 1), res("a", 1)),
		list(res("a", 1), res("b", 1), res("b", 1)),
		list(res("a", -1)),
		list(res("a", math.MinInt64)),
		list(res("objects", -1)),
		list(res("a", -1), res("b", 1)),
		list(res("a", 1), res("b", -1)),
		list(res("a", 1), res("b", -1), res("c", 1)),
	} {
		told(t, charged(l...), false)
	}
	for _, l := range [][]api.Resource{
		list(res("a", 1), res("b", 1), res("c", 1)),
		list(res("a", 0), res("b", 0)),
		list(res("10", 1), res("9", 1)),
		list(res("a-b", 1), res("a0", 1)),
		list(res("a", 1), res("aa", 1)),
	} {
		told(t, charged(l...), true)
	}
}

// P5.1, Right and Charge: all charges of up to three of some resources, right and wrong.
func TestAllShortCharges(t *testing.T) {
	var some []api.Resource
	for _, name := range []string{"a", "a-b", "objects", "z", "", "A", "a-"} {
		for _, n := range []int64{0, 1, math.MaxInt64, -1} {
			some = append(some, res(name, n))
		}
	}
	all := [][]api.Resource{nil}
	for from, length := 0, 0; length < 3; length++ {
		to := len(all)
		for _, l := range all[from:to] {
			for _, r := range some {
				all = append(all, append(slices.Clone(l), r))
			}
		}
		from = to
	}
	for _, l := range all {
		o := charged(l...)
		told(t, o, mayBe(o))
	}
}

// drawn are objects, most of which may be.
func drawn(count int) []api.Object {
	r := rand.New(rand.NewSource(5))
	label := func() string {
		l := []string{"a", "b", "a-b", "a0", "zoo", "objects", long24}
		if r.Intn(60) == 0 {
			l = append(oddities(), "")
		}
		return l[r.Intn(len(l))]
	}
	var objects []api.Object
	for range count {
		o := api.Object{Key: api.Key{Kind: label(), Space: label(), Name: label()}, Version: r.Int63() >> uint(r.Intn(63)), Terminating: r.Intn(2) == 0, Best: r.Intn(2) == 0}
		if r.Intn(2) == 0 {
			o.Class = label()
		}
		all := append(rising(20), res("objects", 0), res("a", 0), res("zoo", 0))
		r.Shuffle(len(all), func(i, j int) { all[i], all[j] = all[j], all[i] })
		o.Charge = all[:r.Intn(18)]
		if r.Intn(30) != 0 {
			sort.Slice(o.Charge, func(i, j int) bool { return o.Charge[i].Name < o.Charge[j].Name })
		}
		for i := range o.Charge {
			o.Charge[i].N = r.Int63() >> uint(r.Intn(63))
			if r.Intn(300) == 0 {
				o.Charge[i].N = -o.Charge[i].N
			}
		}
		objects = append(objects, o)
	}
	return objects
}

// P5.1, Right and Charge: of objects that are drawn.
func TestDrawnObjects(t *testing.T) {
	may := 0
	for _, o := range drawn(20000) {
		if mayBe(o) {
			may++
		}
		told(t, o, mayBe(o))
	}
	if may < 5000 || may > 19000 {
		t.Errorf("%d of the objects may be: too few, or too many", may)
	}
}

// P5.2: of each name a charge has what the object has, and of `objects` one more; of other names nothing.
func TestOneMore(t *testing.T) {
	for _, o := range append(drawn(20000), plain(), charged()) {
		v, e := object.Charge(o)
		if e != api.OK {
			continue
		}
		if !vector.Right(v) {
			t.Fatalf("%v: %v may not be", o, v)
		}
		had := map[string]int64{}
		for _, r := range o.Charge {
			had[r.Name] = r.N
		}
		for name, n := range had {
			if want := big.NewInt(n); name != "objects" && asBig(vector.Get(v, name)).Cmp(want) != 0 {
				t.Fatalf("%v: %v has not %v of %s", o, v, want, name)
			}
		}
		one := new(big.Int).Add(big.NewInt(had["objects"]), big.NewInt(1))
		if asBig(vector.Get(v, "objects")).Cmp(one) != 0 {
			t.Fatalf("%v: %v has not %v objects", o, v, one)
		}
		for _, x := range v {
			if _, is := had[x.Name]; !is && x.Name != "objects" {
				t.Fatalf("%v: %v has %s", o, v, x.Name)
			}
		}
	}
}

// P5.2: a charge hangs not on key, version, class, and flags.
func TestWhatAChargeHangsOn(t *testing.T) {
	for _, l := range [][]api.Resource{nil, list(res("cpu", 2)), list(res("objects", 2)), list(res("cpu", 0), res("mem", math.MaxInt64)), rising(16)} {
		want, e := object.Charge(api.Object{Key: api.Key{Kind: "k", Space: "s", Name: "n"}, Version: 1, Charge: l})
		if e != api.OK {
			t.Fatal(l, e)
		}
		for _, key := range []api.Key{plain().Key, {Kind: "objects", Space: "objects", Name: "objects"}, {Kind: long24, Space: "root", Name: "0"}} {
			for _, version := range []int64{1, 2, math.MaxInt64} {
				for _, class := range []string{"", "a", "objects", "cpu"} {
					for flags := range 4 {
						o := api.Object{Key: key, Version: version, Class: class, Terminating: flags&1 != 0, Best: flags&2 != 0, Charge: l}
						if v, e := object.Charge(o); !vector.Same(v, want) || e != api.OK {
							t.Errorf("%v: %v %d, not %v", o, v, e, want)
						}
					}
				}
			}
		}
	}
}

// changes are what makes another object of the plain one, each in one thing alone, but for its version.
func changes() []func(o *api.Object) {
	return []func(o *api.Object){
		func(o *api.Object) { o.Key.Kind = "job" },
		func(o *api.Object) { o.Key.Kind = "" },
		func(o *api.Object) { o.Key.Space = "b" },
		func(o *api.Object) { o.Key.Name = "y" },
		func(o *api.Object) { o.Key = api.Key{Kind: o.Key.Name, Space: o.Key.Space, Name: o.Key.Kind} },
		func(o *api.Object) { o.Class = "" },
		func(o *api.Object) { o.Class = "low" },
		func(o *api.Object) { o.Terminating = false },
		func(o *api.Object) { o.Best = false },
		func(o *api.Object) { o.Terminating, o.Best = false, false },
		func(o *api.Object) { o.Charge = nil },
		func(o *api.Object) { o.Charge = o.Charge[:2] },
		func(o *api.Object) { o.Charge = o.Charge[1:] },
		func(o *api.Object) { o.Charge = append(o.Charge[:1], o.Charge[2]) },
		func(o *api.Object) { o.Charge = append(o.Charge, res("zoo", 0)) },
		func(o *api.Object) { o.Charge = append(o.Charge, o.Charge[2]) },
		func(o *api.Object) { o.Charge[0].N = 3 },
		func(o *api.Object) { o.Charge[2].N = 4 },
		func(o *api.Object) { o.Charge[2].N = -5 },
		func(o *api.Object) { o.Charge[0].Name = "cpv" },
		func(o *api.Object) { o.Charge[1].Name = "men" },
		func(o *api.Object) { o.Charge[0], o.Charge[1] = o.Charge[1], o.Charge[0] },
		func(o *api.Object) { o.Charge[0].N, o.Charge[2].N = 5, 2 },
	}
}

// P5.1, Same and Alike: two that differ in one thing alone; in their versions alone; and those that may not be.
func TestSameAndAlike(t *testing.T) {
	held := func(a, b api.Object, same, alike bool) {
		t.Helper()
		if object.Same(a, b) != same || object.Same(b, a) != same || object.Alike(a, b) != alike || object.Alike(b, a) != alike {
			t.Errorf("%v, %v: not %v %v", a, b, same, alike)
		}
	}
	all := []api.Object{plain(), {}}
	for _, change := range changes() {
		all = append(all, with(change))
	}
	for i, a := range all {
		for j, b := range all {
			held(a, b, i == j, i == j)
			for _, n := range []int64{1, 2, 4, 0, -1, math.MaxInt64} {
				other := b
				other.Version = n
				held(a, other, i == j && a.Version == n, i == j)
			}
		}
	}
	none, empty := charged(), charged()
	none.Charge, empty.Charge = nil, list()
	held(none, empty, true, true)
	held(charged(plain().Charge[:2:2]...), charged(plain().Charge[:2]...), true, true)
	// Both have one charge, and are not the same: what one asks for is not what it has.
	a, b := charged(res("a", 0)), charged()
	held(a, b, false, false)
	x, _ := object.Charge(a)
	y, _ := object.Charge(b)
	if !vector.Same(x, y) {
		t.Errorf("%v, %v: two charges", x, y)
	}
}

// P5.1, Own: all as it was, right or wrong, with a list of its own.
func TestOwn(t *testing.T) {
	l := append(drawn(2000), plain(), api.Object{}, charged(), charged(rising(17)...), charged(rising(5000)...))
	for _, change := range changes() {
		l = append(l, with(change))
	}
	for _, o := range l {
		was := slices.Clone(o.Charge)
		x, y := object.Own(o), object.Own(o)
		if !object.Same(x, o) || !object.Same(y, o) || x.Key != o.Key || x.Version != o.Version || x.Class != o.Class || x.Terminating != o.Terminating || x.Best != o.Best || !slices.Equal(x.Charge, was) {
			t.Fatalf("Own(%v): %v", o, x)
		}
		for i := range x.Charge {
			x.Charge[i] = res("changed", -7)
		}
		_ = append(x.Charge, res("changed", -8))
		if !slices.Equal(o.Charge, was) || !slices.Equal(y.Charge, was) {
			t.Fatalf("Own(%v): shares its list", o)
		}
		for i := range o.Charge {
			o.Charge[i] = res("written", -9)
		}
		if !slices.Equal(y.Charge, was) {
			t.Fatalf("Own(%v): keeps the list that was handed in", was)
		}
	}
}

// behind is the list, with more behind its length in its memory.
func behind(l []api.Resource) (list, whole []api.Resource) {
	whole = append(slices.Clone(l), res("zz", 1), res("zz", 2), res("A", -1))
	return whole[:len(l):len(whole)], whole
}

// Rules 3 and 4: what is handed in stays as it is, and what lies behind a list is neither read nor written; answers share nothing.
func TestNothingIsShared(t *testing.T) {
	for _, l := range [][]api.Resource{nil, list(res("a", 1)), plain().Charge, rising(15), rising(16), rising(17), list(res("b", 1), res("a", -1))} {
		short, whole := behind(l)
		was := slices.Clone(whole)
		o, fresh := charged(short...), charged(slices.Clone(l)...)
		if object.Right(o) != object.Right(fresh) || !object.Same(o, fresh) || !object.Alike(fresh, o) {
			t.Errorf("%v: what lies behind is read", l)
		}
		v, e := object.Charge(o)
		w, f := object.Charge(fresh)
		if !vector.Same(v, w) || e != f {
			t.Errorf("%v: what lies behind is read", l)
		}
		own := object.Own(o)
		for i := range v {
			v[i] = api.Entry{}
		}
		_ = append(v, api.Entry{})
		_ = append(own.Charge, res("more", 1))
		if again, _ := object.Charge(o); !vector.Same(again, w) || !object.Same(own, fresh) {
			t.Errorf("%v: answers share memory", l)
		}
		if !slices.Equal(whole, was) {
			t.Errorf("%v: written into", l)
		}
	}
}

// P1 and P2: every call ends without a panic, and tells the same of the same, whatever it was asked between.
func TestCallsEndAndTellTheSame(t *testing.T) {
	type answers struct {
		right, same, alike bool
		charge             string
		e                  api.Errno
		own                int
	}
	ask := func(a, b api.Object) (x answers) {
		v, e := object.Charge(a)
		return answers{object.Right(a), object.Same(a, b), object.Alike(a, b), vector.Text(v), e, len(object.Own(a).Charge)}
	}
	long := strings.Repeat("a", 1<<20)
	l := append(drawn(500), api.Object{}, plain(), charged(rising(1<<16)...), charged(list(res(long, 1))...), charged(slices.Repeat(list(res("a", math.MaxInt64)), 1<<18)...),
		with(func(o *api.Object) { o.Class = long }), with(func(o *api.Object) { o.Key = api.Key{Kind: long, Space: long, Name: long} }))
	first := make([]answers, len(l))
	for i, o := range l {
		first[i] = ask(o, l[len(l)-1-i])
	}
	for j := range l {
		i := len(l) - 1 - j
		if ask(l[i], l[len(l)-1-i]) != first[i] {
			t.Errorf("%d: told otherwise", i)
		}
	}
}
