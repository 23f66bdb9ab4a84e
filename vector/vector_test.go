package vector_test

import (
	"math"
	"math/big"
	"math/rand"
	"regexp"
	"slices"
	"sort"
	"strconv"
	"strings"
	"testing"

	"scutage/api"
	"scutage/quantity"
	"scutage/vector"
	"scutage/wide"
)

var (
	zero  = api.Wide{}
	least = api.Wide{Hi: math.MinInt64}
	most  = api.Wide{Hi: math.MaxInt64, Lo: math.MaxUint64}

	bigLeast = new(big.Int).Lsh(big.NewInt(-1), 127)
	bigMost  = new(big.Int).Not(bigLeast)

	// asLabel says once more, in another way, what a label is.
	asLabel = regexp.MustCompile(`\A[a-z0-9]([a-z0-9-]{0,22}[a-z0-9])?\z`)
)

const long24 = "abcdefghijklmnopqrstuvwx"

func entry(name string, n int64) api.Entry { return api.Entry{Name: name, N: wide.Of(n)} }

func vec(l ...api.Entry) api.Vector { return l }

func res(name string, n int64) api.Resource { return api.Resource{Name: name, N: n} }

func list(l ...api.Resource) []api.Resource { return l }

// oddities are texts that are no labels, each for a reason of its own.
func oddities() []string {
	return []string{"", "-", "-a", "a-", long24 + "y", "A", "aB", "a b", " a", "a ", "a\n", "a\x00", "a/b", "a=b", "=", "a=", ",", "a,b", "a_b", "a.b", "`", "{", "é", "\xff", "a\xff"}
}

// asBig says once more, in another way, which number it is.
func asBig(w api.Wide) *big.Int {
	b := new(big.Int).Mul(big.NewInt(w.Hi), new(big.Int).Lsh(big.NewInt(1), 64))
	return b.Add(b, new(big.Int).SetUint64(w.Lo))
}

// fromBig is the wide number that it is; false, if it is none.
func fromBig(b *big.Int) (api.Wide, bool) {
	if b.Cmp(bigLeast) < 0 || b.Cmp(bigMost) > 0 {
		return zero, false
	}
	low := new(big.Int).And(b, new(big.Int).SetUint64(math.MaxUint64))
	return api.Wide{Hi: new(big.Int).Rsh(b, 64).Int64(), Lo: low.Uint64()}, true
}

// amounts are how much a vector has of each name.
type amounts map[string]*big.Int

func amountsOf(v api.Vector) amounts {
	m := amounts{}
	for _, e := range v {
		m[e.Name] = asBig(e.N)
	}
	return m
}

func (m amounts) of(name string) *big.Int {
	if n, ok := m[name]; ok {
		return n
	}
	return new(big.Int)
}

// names are those of all, rising.
func names(all ...amounts) []string {
	var l []string
	for _, m := range all {
		for name := range m {
			l = append(l, name)
		}
	}
	sort.Strings(l)
	return slices.Compact(l)
}

// made is the vector of amounts, names rising, without any that is 0; ErrFull, if there is no such number.
func made(m amounts) (api.Vector, api.Errno) {
	var v api.Vector
	for _, name := range names(m) {
		n, ok := fromBig(m[name])
		if !ok {
			return nil, api.ErrFull
		}
		if n != zero {
			v = append(v, api.Entry{Name: name, N: n})
		}
	}
	return v, api.OK
}

// both says once more, in another way, what Add and Sub tell.
func both(a, b amounts, f func(z, x, y *big.Int) *big.Int) (api.Vector, api.Errno) {
	m := amounts{}
	for _, name := range names(a, b) {
		m[name] = f(new(big.Int), a.of(name), b.of(name))
	}
	return made(m)
}

// all are all vectors of some of the names, with some of the numbers; 0 stands for none.
func all(numbers []api.Wide, names ...string) []api.Vector {
	l := []api.Vector{nil}
	for _, name := range names {
		var next []api.Vector
		for _, v := range l {
			for _, n := range numbers {
				if n == zero {
					next = append(next, v)
					continue
				}
				next = append(next, append(slices.Clone(v), api.Entry{Name: name, N: n}))
			}
		}
		l = next
	}
	return l
}

// vectors are all of three names, with numbers at the edges of what fits, and of what there is.
func vectors() []api.Vector {
	return all([]api.Wide{zero, wide.Of(1), wide.Of(-1), {Lo: 1 << 63}, wide.Of(math.MinInt64), least, most}, "a", "a-b", "a0")
}

// pool are names, some of which are in another order by parts, or by lengths.
func pool() []string {
	l := []string{"a", "a-b", "a0", "aa", "z", "0", "10", "9", "cpu", "mem", "objects", long24, long24[:23]}
	for i := range 30 {
		l = append(l, "n"+strconv.Itoa(i))
	}
	return l
}

// drawn are vectors of any lengths, of names that some of them have, and others not.
func drawn(count int) []api.Vector {
	r := rand.New(rand.NewSource(4))
	var l []api.Vector
	for i := range count {
		m := amounts{}
		for _, name := range pool() {
			if r.Intn(40) < i%41 {
				m[name] = asBig(api.Wide{Hi: int64(r.Uint64()) >> uint(r.Intn(64)), Lo: r.Uint64()})
			}
			if r.Intn(3) == 0 && m[name] != nil {
				m[name] = big.NewInt(r.Int63n(5) - 2)
			}
		}
		v, _ := made(m)
		l = append(l, v)
	}
	return l
}

// wrong are vectors that may not be, each for a reason of its own.
func wrong() []api.Vector {
	l := []api.Vector{
		vec(entry("a", 0)),
		vec(entry("a", 0), entry("b", 1)),
		vec(entry("a", 1), entry("b", 0)),
		vec(entry("a", 1), entry("b", 0), entry("c", 1)),
		vec(entry("b", 1), entry("a", 1)),
		vec(entry("a", 1), entry("c", 1), entry("b", 1)),
		vec(entry("a", 1), entry("a", 1)),
		vec(entry("a", 1), entry("a", 2)),
		vec(entry("a", 1), entry("b", 1), entry("b", -1)),
		vec(entry("a", 1), entry("b", 1), entry("a", 1)),
		vec(entry("a0", 1), entry("a-b", 1)),
		vec(entry("aa", 1), entry("a", 1)),
		vec(entry("9", 1), entry("10", 1)),
		vec(entry("a", 1), entry("9", 1)),
		vec(api.Entry{}),
		make(api.Vector, 3),
	}
	for _, s := range oddities() {
		l = append(l, vec(entry(s, 1)))
		if s > "0" {
			l = append(l, vec(entry("0", 1), entry(s, 1)))
		}
		if s < "z" {
			l = append(l, vec(entry(s, 1), entry("z", 1)))
		}
	}
	return l
}

// P4.1, Right: none, one, many, and numbers on either side of 0.
func TestRightTells(t *testing.T) {
	var many api.Vector
	for i := range 1000 {
		many = append(many, entry("n"+strconv.Itoa(1000+i), int64(i+1)))
	}
	for _, v := range []api.Vector{
		nil, {}, vec(entry("a", 1)), vec(entry("a", -1)), vec(entry("a", math.MaxInt64), entry("b", math.MinInt64)),
		{{Name: "a", N: least}, {Name: "b", N: most}}, {{Name: "a", N: api.Wide{Hi: 1}}, {Name: "b", N: api.Wide{Lo: 1}}},
		vec(entry("10", 1), entry("9", 1), entry("a", 1), entry("a-b", 1), entry("a0", 1), entry("aa", 1), entry("b", 1)),
		vec(entry("0", 1), entry(long24[:23], 1), entry(long24, 1), entry(strings.Repeat("z", 24), 1)),
		many[:16], many[:17], many,
	} {
		if !vector.Right(v) {
			t.Errorf("%v may be", v)
		}
	}
	for _, v := range wrong() {
		if vector.Right(v) {
			t.Errorf("%v may not be", v)
		}
	}
	// One wrong entry of many is enough, wherever it stands.
	for i := range many {
		bad := []api.Entry{{Name: many[i].Name}, entry("A", 1)}
		if i > 0 {
			bad = append(bad, many[i-1], entry("m", 1))
		}
		if i < len(many)-1 {
			bad = append(bad, many[i+1], entry("z", 1))
		}
		for _, e := range bad {
			v := slices.Clone(many)
			if v[i] = e; vector.Right(v) {
				t.Errorf("%d: %v", i, e)
			}
		}
	}
}

// P4.1, Of: of each name the sum of its numbers, and none of those of which that is 0.
func TestOfTells(t *testing.T) {
	greatest := make([]api.Resource, 16)
	for i := range greatest {
		greatest[i] = res("a", math.MaxInt64)
	}
	for _, c := range []struct {
		l    []api.Resource
		want api.Vector
	}{
		{nil, nil},
		{list(), nil},
		{list(res("a", 0)), nil},
		{list(res("a", 0), res("b", 0), res("a", 0)), nil},
		{list(res("a", 1)), vec(entry("a", 1))},
		{list(res("b", 2), res("a", 1)), vec(entry("a", 1), entry("b", 2))},
		{list(res("a", 1), res("a", 0)), vec(entry("a", 1))},
		{list(res("a", 0), res("b", 1), res("a", 2)), vec(entry("a", 2), entry("b", 1))},
		{list(res("c", 3), res("a", 1), res("b", 0), res("c", 4)), vec(entry("a", 1), entry("c", 7))},
		{list(res("a0", 1), res("a", 2), res("a-b", 3), res("9", 4), res("10", 5)), vec(entry("10", 5), entry("9", 4), entry("a", 2), entry("a-b", 3), entry("a0", 1))},
		{list(res("a", math.MaxInt64), res("a", 1)), api.Vector{{Name: "a", N: api.Wide{Lo: 1 << 63}}}},
		{list(res("a", math.MaxInt64), res("a", math.MaxInt64), res("a", 2)), api.Vector{{Name: "a", N: api.Wide{Hi: 1}}}},
		{greatest, api.Vector{{Name: "a", N: api.Wide{Hi: 7, Lo: math.MaxUint64 - 15}}}},
	} {
		if v, e := vector.Of(c.l); !slices.Equal(v, c.want) || e != api.OK {
			t.Errorf("%v: %v %d", c.l, v, e)
		}
	}
}

// P4.1, Of: any resources, in any order; what comes of them may be.
func TestOfAny(t *testing.T) {
	r := rand.New(rand.NewSource(5))
	all := pool()
	for i := range 20000 {
		l := make([]api.Resource, r.Intn(17))
		m := amounts{}
		for j := range l {
			l[j] = res(all[r.Intn(1+i%len(all))], r.Int63()>>uint(r.Intn(64)))
			m[l[j].Name] = new(big.Int).Add(m.of(l[j].Name), big.NewInt(l[j].N))
		}
		want, _ := made(m)
		v, e := vector.Of(l)
		if !slices.Equal(v, want) || e != api.OK || !vector.Right(v) {
			t.Fatalf("%v: %v %d", l, v, e)
		}
		slices.Reverse(l)
		if x, e := vector.Of(l); !slices.Equal(x, v) || e != api.OK {
			t.Fatalf("%v: %v %d", l, x, e)
		}
	}
}

// P4.1, Of: one resource that may not be is enough, wherever it stands, and of however many.
func TestOfWhatMayNotBe(t *testing.T) {
	bad := list(res("a", -1), res("a", math.MinInt64), res("", -1))
	for _, s := range oddities() {
		bad = append(bad, res(s, 0), res(s, 1))
	}
	for _, r := range bad {
		for _, n := range []int{1, 2, 15, 16, 17, 18, 100} {
			for _, i := range []int{0, n / 2, n - 1} {
				l := make([]api.Resource, n)
				for j := range l {
					l[j] = res("a", 5)
				}
				l[i] = r
				if v, e := vector.Of(l); len(v) != 0 || e != api.ErrArg {
					t.Errorf("%d of %d: %v: %v %d", i, n, r, v, e)
				}
			}
		}
	}
}

// P4.1, Of: 16 may be, 17 not, whether their names are one, or their numbers 0.
func TestOfTooMany(t *testing.T) {
	for _, n := range []int64{0, 1, math.MaxInt64} {
		for _, one := range []bool{true, false} {
			var l []api.Resource
			for i := range 40 {
				name := "a"
				if !one {
					name += strconv.Itoa(i)
				}
				l = append(l, res(name, n))
				v, e := vector.Of(l)
				switch {
				case len(l) > 16 && (len(v) != 0 || e != api.ErrFull):
					t.Errorf("%d: %v %d", len(l), v, e)
				case len(l) <= 16 && (e != api.OK || (n != 0) != (len(v) != 0) || !one && n != 0 && len(v) != len(l)):
					t.Errorf("%d: %v %d", len(l), v, e)
				}
			}
		}
	}
}

// P4.1, Get: each name that it has, and 0 of each other one.
func TestGetTells(t *testing.T) {
	for _, v := range append(drawn(100), vectors()...) {
		m := amountsOf(v)
		for _, name := range append(pool(), oddities()...) {
			if got := vector.Get(v, name); asBig(got).Cmp(m.of(name)) != 0 {
				t.Fatalf("%v: %q: %v", v, name, got)
			}
		}
	}
	// Of one that may not be: the number with that name, in whatever order, the first one of some.
	v := vec(entry("z", 1), entry("a", 2), entry("m", 3), entry("A", 4), entry("", 5), entry("m", 6), entry("o", 0))
	for name, want := range map[string]int64{"z": 1, "a": 2, "m": 3, "A": 4, "": 5, "o": 0, "b": 0, "zz": 0, "-": 0} {
		if got := vector.Get(v, name); got != wide.Of(want) {
			t.Errorf("%q: %v", name, got)
		}
	}
}

// P4.1, Add and Sub: as they come, with names that just one of both has, and what comes to 0.
func TestAddAndSubTell(t *testing.T) {
	a, b := vec(entry("cpu", 2), entry("mem", 9)), vec(entry("cpu", 2), entry("gpu", 1))
	for i, c := range []struct {
		f    func(a, b api.Vector) (api.Vector, api.Errno)
		a, b api.Vector
		want api.Vector
	}{
		{vector.Add, nil, nil, nil},
		{vector.Add, a, nil, a},
		{vector.Add, nil, a, a},
		{vector.Add, a, b, vec(entry("cpu", 4), entry("gpu", 1), entry("mem", 9))},
		{vector.Add, a, vec(entry("cpu", -2)), vec(entry("mem", 9))},
		{vector.Add, a, vec(entry("cpu", -2), entry("mem", -9)), nil},
		{vector.Add, a, vec(entry("cpu", -3)), vec(entry("cpu", -1), entry("mem", 9))},
		{vector.Add, a, vec(entry("a", 1), entry("z", 1)), vec(entry("a", 1), entry("cpu", 2), entry("mem", 9), entry("z", 1))},
		{vector.Add, vec(entry("a", 1)), vec(entry("b", 1)), vec(entry("a", 1), entry("b", 1))},
		{vector.Add, vec(entry("b", 1)), vec(entry("a", 1)), vec(entry("a", 1), entry("b", 1))},
		{vector.Add, vec(entry("a0", 1)), vec(entry("a-b", 1)), vec(entry("a-b", 1), entry("a0", 1))},
		{vector.Add, vec(entry("a", math.MaxInt64)), vec(entry("a", math.MaxInt64)), api.Vector{{Name: "a", N: api.Wide{Lo: math.MaxUint64 - 1}}}},
		{vector.Add, api.Vector{{Name: "a", N: least}}, api.Vector{{Name: "a", N: most}}, vec(entry("a", -1))},
		{vector.Add, api.Vector{{Name: "a", N: most}}, api.Vector{{Name: "b", N: most}}, api.Vector{{Name: "a", N: most}, {Name: "b", N: most}}},
		{vector.Sub, nil, nil, nil},
		{vector.Sub, a, nil, a},
		{vector.Sub, nil, a, vec(entry("cpu", -2), entry("mem", -9))},
		{vector.Sub, a, a, nil},
		{vector.Sub, a, b, vec(entry("gpu", -1), entry("mem", 9))},
		{vector.Sub, b, a, vec(entry("gpu", 1), entry("mem", -9))},
		{vector.Sub, a, vec(entry("a", 1), entry("z", 1)), vec(entry("a", -1), entry("cpu", 2), entry("mem", 9), entry("z", -1))},
		{vector.Sub, vec(entry("a", math.MinInt64)), vec(entry("a", 1)), api.Vector{{Name: "a", N: api.Wide{Hi: -1, Lo: 1<<63 - 1}}}},
		{vector.Sub, api.Vector{{Name: "a", N: least}}, api.Vector{{Name: "a", N: least}}, nil},
		{vector.Sub, vec(entry("a", -1)), api.Vector{{Name: "a", N: least}}, api.Vector{{Name: "a", N: most}}},
		{vector.Sub, nil, api.Vector{{Name: "a", N: most}}, api.Vector{{Name: "a", N: api.Wide{Hi: math.MinInt64, Lo: 1}}}},
	} {
		if v, e := c.f(c.a, c.b); !slices.Equal(v, c.want) || e != api.OK {
			t.Errorf("%d: %v %d", i, v, e)
		}
	}
}

// P4.1, Add and Sub, T5: where of one name there is no such number, there is no vector, whichever name it is.
func TestNoSuchNumber(t *testing.T) {
	big := func(n api.Wide) api.Vector { return api.Vector{{Name: "m", N: n}} }
	around := []api.Vector{nil, vec(entry("a", 1)), vec(entry("z", 1)), vec(entry("a", 1), entry("b", 1), entry("y", 1), entry("z", 1))}
	join := func(v, w api.Vector) api.Vector {
		x := append(slices.Clone(v), w...)
		sort.Slice(x, func(i, j int) bool { return x[i].Name < x[j].Name })
		return x
	}
	for _, x := range around {
		for _, y := range around {
			for i, c := range []struct {
				f    func(a, b api.Vector) (api.Vector, api.Errno)
				a, b api.Vector
			}{
				{vector.Add, big(most), big(wide.Of(1))},
				{vector.Add, big(wide.Of(1)), big(most)},
				{vector.Add, big(most), big(most)},
				{vector.Add, big(least), big(wide.Of(-1))},
				{vector.Add, big(least), big(least)},
				{vector.Sub, big(most), big(wide.Of(-1))},
				{vector.Sub, big(least), big(wide.Of(1))},
				{vector.Sub, big(wide.Of(-2)), big(most)},
				{vector.Sub, big(wide.Of(1)), big(least)},
				{vector.Sub, nil, big(least)},
			} {
				if v, e := c.f(join(c.a, x), join(c.b, y)); len(v) != 0 || e != api.ErrFull {
					t.Errorf("%d, with %v, and %v: %v %d", i, x, y, v, e)
				}
			}
		}
	}
}

// P4.1, Add and Sub: any two, as numbers of any length have it; what comes of it may be (P4.2).
func TestAnyTwo(t *testing.T) {
	for _, l := range [][]api.Vector{vectors(), drawn(82)} {
		m := make([]amounts, len(l))
		for i, v := range l {
			m[i] = amountsOf(v)
		}
		for i, a := range l {
			for j, b := range l {
				want, is := both(m[i], m[j], (*big.Int).Add)
				if v, e := vector.Add(a, b); !slices.Equal(v, want) || e != is || !vector.Right(v) {
					t.Fatalf("%v and %v: %v %d", a, b, v, e)
				}
				want, is = both(m[i], m[j], (*big.Int).Sub)
				if v, e := vector.Sub(a, b); !slices.Equal(v, want) || e != is || !vector.Right(v) {
					t.Fatalf("%v less %v: %v %d", a, b, v, e)
				}
			}
		}
	}
}

// P4.1, Add, Sub and Within: one of both that may not be is enough, also where there would be no such number.
func TestOfOneThatMayNotBe(t *testing.T) {
	right := append([]api.Vector{nil, vec(entry("a", 1)), {{Name: "a", N: most}, {Name: "b", N: least}}}, drawn(41)[40])
	over := append(wrong(), api.Vector{{Name: "a", N: most}, {Name: "a", N: most}}, api.Vector{{Name: "a", N: least}, {Name: "b"}}, api.Vector{{Name: "a", N: most}, {Name: "b"}})
	for _, x := range over {
		for _, y := range append(right, over...) {
			for _, f := range []func(a, b api.Vector) (api.Vector, api.Errno){vector.Add, vector.Sub} {
				if v, e := f(x, y); len(v) != 0 || e != api.ErrArg {
					t.Errorf("%v, %v: %v %d", x, y, v, e)
				}
				if v, e := f(y, x); len(v) != 0 || e != api.ErrArg {
					t.Errorf("%v, %v: %v %d", y, x, v, e)
				}
			}
			if is, name := vector.Within(x, y); is || name != "" {
				t.Errorf("%v, %v: %q", x, y, name)
			}
			if is, name := vector.Within(y, x); is || name != "" {
				t.Errorf("%v, %v: %q", y, x, name)
			}
		}
	}
}

// P4.2: sums do not hang on the order: not of two, and not of three where each has one.
func TestSumsInAnyOrder(t *testing.T) {
	for _, l := range [][]api.Vector{vectors(), drawn(100)} {
		for _, a := range l {
			for _, b := range l {
				x, e := vector.Add(a, b)
				if y, f := vector.Add(b, a); !slices.Equal(x, y) || e != f {
					t.Fatalf("%v and %v: %v %d", a, b, y, f)
				}
			}
		}
	}
	var whole int
	l := append(all([]api.Wide{zero, wide.Of(1), wide.Of(-1), least, most, {Lo: 1 << 63}}, "a", "b"), drawn(20)...)
	for _, a := range l {
		for _, b := range l {
			ab, e := vector.Add(a, b)
			for _, c := range l {
				bc, f := vector.Add(b, c)
				if e != api.OK || f != api.OK {
					continue
				}
				whole++
				x, e := vector.Add(ab, c)
				y, f := vector.Add(a, bc)
				if !slices.Equal(x, y) || e != f {
					t.Fatalf("%v, %v, %v: %v %d, and %v %d", a, b, c, x, e, y, f)
				}
			}
		}
	}
	if whole == 0 {
		t.Error("no three")
	}
}

// P4.2: a sum, less what came to it, is as it was; a difference, and what was taken away, too.
func TestSumsComeBack(t *testing.T) {
	for _, l := range [][]api.Vector{vectors(), drawn(200)} {
		var sums, rests int
		for _, a := range l {
			for _, b := range l {
				if s, e := vector.Add(a, b); e == api.OK {
					sums++
					if x, e := vector.Sub(s, b); !slices.Equal(x, a) || e != api.OK {
						t.Fatalf("%v and %v less it: %v %d", a, b, x, e)
					}
				}
				if d, e := vector.Sub(a, b); e == api.OK {
					rests++
					if x, e := vector.Add(d, b); !slices.Equal(x, a) || e != api.OK {
						t.Fatalf("%v less %v and it: %v %d", a, b, x, e)
					}
				}
			}
		}
		if sums == 0 || rests == 0 {
			t.Errorf("%d sums, %d differences", sums, rests)
		}
	}
}

// P4.1, Within: as they come; just the other one's names count, and the least one of which there is more is told.
func TestWithinTells(t *testing.T) {
	a := vec(entry("cpu", 2), entry("mem", 9))
	for i, c := range []struct {
		v, hard api.Vector
		is      bool
		name    string
	}{
		{nil, nil, true, ""},
		{a, nil, true, ""},
		{a, a, true, ""},
		{nil, a, true, ""},
		{a, vec(entry("cpu", 3), entry("mem", 10)), true, ""},
		{a, vec(entry("cpu", 2)), true, ""},
		{a, vec(entry("mem", 9)), true, ""},
		{a, vec(entry("cpu", 1)), false, "cpu"},
		{a, vec(entry("mem", 8)), false, "mem"},
		{a, vec(entry("cpu", 1), entry("mem", 8)), false, "cpu"},
		{a, vec(entry("cpu", 2), entry("mem", 8)), false, "mem"},
		{a, vec(entry("a", 1), entry("d", 1), entry("z", 1)), true, ""},
		{a, vec(entry("a", -1), entry("cpu", 1)), false, "a"},
		{a, vec(entry("cpu", 2), entry("d", -1), entry("mem", 8)), false, "d"},
		{a, vec(entry("cpu", 2), entry("mem", 9), entry("z", -1)), false, "z"},
		{nil, vec(entry("x", -1)), false, "x"},
		{vec(entry("x", -1)), vec(entry("x", -1)), true, ""},
		{vec(entry("x", -2)), vec(entry("x", -1)), true, ""},
		{vec(entry("x", -1)), vec(entry("x", -2)), false, "x"},
		{vec(entry("a", 1), entry("b", 5), entry("c", 1), entry("d", 5)), vec(entry("a", 1), entry("c", 1), entry("d", 4)), false, "d"},
		{api.Vector{{Name: "a", N: api.Wide{Lo: 1 << 63}}}, vec(entry("a", math.MaxInt64)), false, "a"},
		{api.Vector{{Name: "a", N: api.Wide{Hi: 1}}}, api.Vector{{Name: "a", N: api.Wide{Lo: math.MaxUint64}}}, false, "a"},
		{api.Vector{{Name: "a", N: most}}, api.Vector{{Name: "a", N: most}}, true, ""},
		{api.Vector{{Name: "a", N: most}}, api.Vector{{Name: "a", N: least}}, false, "a"},
		{api.Vector{{Name: "a", N: least}}, api.Vector{{Name: "a", N: most}}, true, ""},
	} {
		if is, name := vector.Within(c.v, c.hard); is != c.is || name != c.name {
			t.Errorf("%d: %v %q", i, is, name)
		}
	}
}

// more is the least name of which there is more in v than in hard, as numbers of any length have it.
func more(v, hard amounts) (bool, string) {
	for _, name := range names(hard) {
		if v.of(name).Cmp(hard.of(name)) > 0 {
			return false, name
		}
	}
	return true, ""
}

// P4.1, Within: any two.
func TestWithinOfAnyTwo(t *testing.T) {
	for _, l := range [][]api.Vector{vectors(), drawn(250)} {
		m := make([]amounts, len(l))
		for i, v := range l {
			m[i] = amountsOf(v)
		}
		for i, v := range l {
			for j, hard := range l {
				want, by := more(m[i], m[j])
				if is, name := vector.Within(v, hard); is != want || name != by {
					t.Fatalf("%v, %v: %v %q", v, hard, is, name)
				}
			}
		}
	}
}

// P4.3: what is within another one is so with less, too.
func TestWithinWithLess(t *testing.T) {
	var in, out int
	lessOf := func(v, hard, less api.Vector) {
		x, e := vector.Sub(v, less)
		if e != api.OK {
			return
		}
		was, _ := vector.Within(v, hard)
		is, name := vector.Within(x, hard)
		if was && !is {
			t.Fatalf("%v is within %v, %v not: %q", v, hard, x, name)
		}
		if was {
			in++
		}
		if !is {
			out++
		}
	}
	l := all([]api.Wide{zero, wide.Of(1), wide.Of(2), wide.Of(-1), {Lo: 1 << 63}, most, least}, "a", "b")
	less := all([]api.Wide{zero, wide.Of(1), wide.Of(3), {Lo: 1 << 63}, {Hi: 1}, most}, "a", "b", "c")
	for _, v := range l {
		for _, hard := range l {
			for _, x := range less {
				lessOf(v, hard, x)
			}
		}
	}
	for _, v := range drawn(60) {
		for _, hard := range drawn(60) {
			for _, x := range []api.Vector{vec(entry("a", 1)), vec(entry("cpu", 1), entry("mem", math.MaxInt64)), vec(entry("n1", 3), entry("z", 7))} {
				lessOf(v, hard, x)
			}
		}
	}
	if in == 0 || out == 0 {
		t.Errorf("%d within, %d not", in, out)
	}
}

// P4.1, Fits: just where it may be, and all of its numbers fit.
func TestFitsTells(t *testing.T) {
	small := []api.Wide{wide.Of(1), wide.Of(-1), wide.Of(math.MaxInt64), wide.Of(math.MinInt64)}
	great := []api.Wide{{Lo: 1 << 63}, {Lo: math.MaxUint64}, {Hi: 1}, {Hi: 1, Lo: 5}, {Hi: -1, Lo: 1<<63 - 1}, {Hi: -1}, {Hi: -2, Lo: math.MaxUint64}, least, most}
	if !vector.Fits(nil) || !vector.Fits(api.Vector{}) {
		t.Error("none fits")
	}
	for i := range 5 {
		v := make(api.Vector, 5)
		for j := range v {
			v[j] = api.Entry{Name: "n" + strconv.Itoa(j), N: small[j%len(small)]}
		}
		for _, n := range small {
			if v[i].N = n; !vector.Fits(v) {
				t.Errorf("%v fits", v)
			}
		}
		for _, n := range great {
			if v[i].N = n; vector.Fits(v) {
				t.Errorf("%v does not fit", v)
			}
		}
	}
	for _, v := range wrong() {
		if vector.Fits(v) {
			t.Errorf("%v may not be", v)
		}
	}
	for _, v := range append(vectors(), drawn(200)...) {
		want := true
		for _, e := range v {
			want = want && asBig(e.N).IsInt64()
		}
		if vector.Fits(v) != want {
			t.Errorf("%v", v)
		}
	}
}

// P4.1, Same: in all entries, in their names, and in both halves of their numbers.
func TestSameTells(t *testing.T) {
	if !vector.Same(nil, api.Vector{}) || !vector.Same(api.Vector{}, nil) || !vector.Same(nil, nil) {
		t.Error("none and none")
	}
	l := append(vectors(), wrong()...)
	for i, a := range l {
		if !vector.Same(a, slices.Clone(a)) {
			t.Errorf("%v and itself", a)
		}
		for j, b := range vectors() {
			if vector.Same(a, b) != (i == j) || vector.Same(b, a) != (i == j) {
				t.Fatalf("%v and %v", a, b)
			}
		}
	}
	v := drawn(41)[40]
	for i := range v {
		for _, e := range []api.Entry{{Name: v[i].Name + "x", N: v[i].N}, {Name: v[i].Name, N: api.Wide{Hi: v[i].N.Hi, Lo: v[i].N.Lo ^ 1}}, {Name: v[i].Name, N: api.Wide{Hi: v[i].N.Hi ^ 1, Lo: v[i].N.Lo}}} {
			x := slices.Clone(v)
			x[i] = e
			if vector.Same(v, x) || vector.Same(x, v) {
				t.Errorf("%v and %v", v[i], e)
			}
		}
		if vector.Same(v, v[:i]) || vector.Same(v[:i], v) {
			t.Errorf("%d of them", i)
		}
	}
}

// P4.1, Text: V2, as it comes; numbers on either side of 0, and above 64 bits.
func TestTextTells(t *testing.T) {
	for want, v := range map[string]api.Vector{
		"":                   {},
		"a=1":                vec(entry("a", 1)),
		"a=-1":               vec(entry("a", -1)),
		"cpu=1000,mem=1024":  vec(entry("cpu", 1000), entry("mem", 1024)),
		"gpu=-1,mem=9":       vec(entry("gpu", -1), entry("mem", 9)),
		"10=3,9=2,a=1,a-b=4": vec(entry("10", 3), entry("9", 2), entry("a", 1), entry("a-b", 4)),
		long24 + "=10":       vec(entry(long24, 10)),
		"a=9223372036854775807,b=-9223372036854775808":         vec(entry("a", math.MaxInt64), entry("b", math.MinInt64)),
		"a=9223372036854775808":                                {{Name: "a", N: api.Wide{Lo: 1 << 63}}},
		"a=170141183460469231731687303715884105727":            {{Name: "a", N: most}},
		"a=-170141183460469231731687303715884105728,objects=1": {{Name: "a", N: least}, entry("objects", 1)},
	} {
		if got := vector.Text(v); got != want {
			t.Errorf("%v: %q", v, got)
		}
	}
	if vector.Text(nil) != "" {
		t.Error("none")
	}
	for _, v := range wrong() {
		if got := vector.Text(v); got != "" {
			t.Errorf("%v: %q", v, got)
		}
	}
	for _, v := range append(vectors(), drawn(200)...) {
		var want strings.Builder
		for _, e := range v {
			want.WriteString("," + e.Name + "=" + asBig(e.N).String())
		}
		if got := vector.Text(v); got != strings.TrimPrefix(want.String(), ",") {
			t.Errorf("%v: %q", v, got)
		}
	}
}

// read says once more, in another way, what Parse tells.
func read(s string) ([]api.Resource, api.Errno) {
	if s == "" {
		return nil, api.OK
	}
	var l []api.Resource
	for i, part := range strings.Split(s, ",") {
		at := strings.Index(part, "=")
		if at < 0 || at == len(part)-1 || !asLabel.MatchString(part[:at]) || i > 0 && l[i-1].Name >= part[:at] || i == 16 {
			return nil, api.ErrForm
		}
		n, e := quantity.Parse(part[at+1:])
		if e != api.OK {
			return nil, e
		}
		l = append(l, res(part[:at], n))
	}
	return l, api.OK
}

// parts are so many, each of which is right.
func parts(n int) []string {
	var l []string
	for i := range n {
		l = append(l, "n"+strconv.Itoa(100+i)+"="+strconv.Itoa(i))
	}
	return l
}

// P4.1, Parse: V2, resources as they come.
func TestParseTells(t *testing.T) {
	for s, want := range map[string][]api.Resource{
		"":                        nil,
		"a=0":                     list(res("a", 0)),
		"a=1":                     list(res("a", 1)),
		"cpu=2k,mem=1Ki,x=0":      list(res("cpu", 2000), res("mem", 1024), res("x", 0)),
		"10=1,9=2,a=3,a-b=4,a0=5": list(res("10", 1), res("9", 2), res("a", 3), res("a-b", 4), res("a0", 5)),
		"0=0Ti":                   list(res("0", 0)),
		long24 + "=8388607Ti":     list(res(long24, 8388607<<40)),
		"a=9223372036854775807":   list(res("a", math.MaxInt64)),
		"objects=1000":            list(res("objects", 1000)),
	} {
		if l, e := vector.Parse(s); !slices.Equal(l, want) || e != api.OK {
			t.Errorf("%q: %v %d", s, l, e)
		}
	}
	for n := range 17 {
		l, e := vector.Parse(strings.Join(parts(n), ","))
		if len(l) != n || e != api.OK {
			t.Errorf("%d: %v %d", n, l, e)
		}
		for i, r := range l {
			if r != res("n"+strconv.Itoa(100+i), int64(i)) {
				t.Errorf("%d: %d: %v", n, i, r)
			}
		}
	}
}

// P4.1, Parse: a part that is none, at whatever place, alone, and behind, ahead of, and between others that are right.
func TestParseOfWrongParts(t *testing.T) {
	wrong := map[string]api.Errno{
		"": api.ErrForm, "m": api.ErrForm, "=": api.ErrForm, "m=": api.ErrForm, "=1": api.ErrForm, "m==1": api.ErrForm, "m=1=1": api.ErrForm, "m=1=": api.ErrForm, "=m=1": api.ErrForm,
		"m:1": api.ErrForm, "m 1": api.ErrForm, "m =1": api.ErrForm, " m=1": api.ErrForm, "m= 1": api.ErrForm, "m=1 ": api.ErrForm, "m=1\n": api.ErrForm, "m=1;n=1": api.ErrForm,
		"m=01": api.ErrForm, "m=-1": api.ErrForm, "m=+1": api.ErrForm, "m=1K": api.ErrForm, "m=k": api.ErrForm, "m=1.5": api.ErrForm, "m=-": api.ErrForm, "m=x": api.ErrForm, "m=\xff": api.ErrForm,
		"m=9223372036854775808": api.ErrFull, "m=8388608Ti": api.ErrFull, "m=9223372036854776k": api.ErrFull, "m=99999999999999999999999": api.ErrFull,
		// What stands first is told first.
		"M=9223372036854775808": api.ErrForm, "-=9223372036854775808": api.ErrForm, "=9223372036854775808": api.ErrForm, "m=9223372036854775808=": api.ErrForm, "m=09223372036854775808": api.ErrForm,
	}
	for _, s := range oddities() {
		if s != "," && s != "a,b" {
			wrong[s+"=1"], wrong[s+"=9223372036854775808"] = api.ErrForm, api.ErrForm
		}
	}
	for part, want := range wrong {
		for _, s := range []string{part, part + ",z=1", "a=1," + part, "a=1," + part + ",z=1", "a=1,b=2," + part + ",", part + ",,", "a=0," + part + "," + part} {
			if s == "" {
				continue
			}
			if l, e := vector.Parse(s); len(l) != 0 || e != want {
				t.Errorf("%q: %v %d", s, l, e)
			}
		}
	}
}

// P4.1, Parse: names that do not rise, with any quantity behind them.
func TestParseOfNamesThatDoNotRise(t *testing.T) {
	for _, c := range [][2]string{{"a", "a"}, {"b", "a"}, {"aa", "a"}, {"a0", "a-b"}, {"9", "10"}, {"a", "9"}, {long24, long24[:23]}, {long24, long24}} {
		for _, behind := range []string{"1", "0", "9223372036854775808", "x", ""} {
			for _, s := range []string{c[0] + "=1," + c[1] + "=" + behind, c[0] + "=0," + c[1] + "=" + behind, "0=1," + c[0] + "=1," + c[1] + "=" + behind + ",z=1"} {
				if l, e := vector.Parse(s); len(l) != 0 || e != api.ErrForm {
					t.Errorf("%q: %v %d", s, l, e)
				}
			}
		}
	}
}

// P4.1, Parse: from the left: the first part that is wrong tells the error.
func TestParseFromTheLeft(t *testing.T) {
	full, form := "=9223372036854775808", "=01"
	for s, want := range map[string]api.Errno{
		"a" + full + ",b" + form: api.ErrFull,
		"a" + form + ",b" + full: api.ErrForm,
		"a" + full + ",B=1":      api.ErrFull,
		"a" + full + ",":         api.ErrFull,
		"," + "a" + full:         api.ErrForm,
		"b" + full + ",a=1":      api.ErrFull,
		"b=1,a" + full:           api.ErrForm,
		"b=1,c" + full:           api.ErrFull,
		"a=8388608Ti,B":          api.ErrFull,
	} {
		if l, e := vector.Parse(s); len(l) != 0 || e != want {
			t.Errorf("%q: %v %d", s, l, e)
		}
	}
}

// P4.1, Parse: a 17th part is wrong, whatever it is; what is wrong ahead of it is told instead.
func TestParseOfTooManyParts(t *testing.T) {
	ahead := parts(16)
	for _, last := range []string{"", "z", "z=", "z=1", "z=0", "z=9223372036854775808", "Z=1", "a=1", strings.Join(parts(100)[16:], ",")} {
		s := strings.Join(append(slices.Clone(ahead), last), ",")
		if l, e := vector.Parse(s); len(l) != 0 || e != api.ErrForm {
			t.Errorf("%q: %v %d", s, l, e)
		}
		for i := range ahead {
			wrong := slices.Clone(ahead)
			wrong[i] = wrong[i][:5] + "9223372036854775808"
			s := strings.Join(append(wrong, last), ",")
			if l, e := vector.Parse(s); len(l) != 0 || e != api.ErrFull {
				t.Errorf("%q: %v %d", s, l, e)
			}
		}
	}
}

// texts are all texts of at most n of the pieces.
func texts(n int, pieces ...string) []string {
	all, last := []string{""}, []string{""}
	for range n {
		var next []string
		for _, s := range last {
			for _, p := range pieces {
				next = append(next, s+p)
			}
		}
		all, last = append(all, next...), next
	}
	return all
}

// P4.1, Parse: all short texts of what stands in them.
func TestParseOfShortTexts(t *testing.T) {
	l := append(texts(6, "a", "b", "=", ",", "1", "0"), texts(5, "a=1", "b=", "c=8388608Ti", ",", "k", "-", "A", "=")...)
	for _, s := range l {
		want, is := read(s)
		if got, e := vector.Parse(s); !slices.Equal(got, want) || e != is {
			t.Errorf("%q: %v %d, not %v %d", s, got, e, want, is)
		}
	}
}

// P4.1, Text and Parse: where all numbers are quantities, a text is read as the resources that make the vector.
func TestTextsComeBack(t *testing.T) {
	r := rand.New(rand.NewSource(6))
	for range 5000 {
		all := pool()
		r.Shuffle(len(all), func(i, j int) { all[i], all[j] = all[j], all[i] })
		var l []api.Resource
		for i := range r.Intn(17) {
			l = append(l, res(all[i], 1+r.Int63()>>uint(r.Intn(63))))
		}
		v, e := vector.Of(l)
		if e != api.OK {
			t.Fatal(l, e)
		}
		parsed, e := vector.Parse(vector.Text(v))
		if e != api.OK || len(parsed) != len(v) {
			t.Fatalf("%v: %v %d", v, parsed, e)
		}
		if x, e := vector.Of(parsed); !vector.Same(x, v) || e != api.OK {
			t.Fatalf("%v: %v %d", v, x, e)
		}
	}
}

// behind is the list, with more behind its length in its memory.
func behind[T any](l []T, more T) (list, whole []T) {
	whole = append(slices.Clone(l), more, more, more)
	return whole[:len(l)], whole
}

// Rules 3 and 4: what is handed in stays as it is, with what lies behind it; what is answered is memory of its own.
func TestNothingIsShared(t *testing.T) {
	for _, a := range drawn(42) {
		for _, b := range drawn(42) {
			x, wholeX := behind(a, entry("zz", 1))
			y, wholeY := behind(b, entry("zz", 2))
			wasX, wasY := slices.Clone(wholeX), slices.Clone(wholeY)
			sum, _ := vector.Add(x, y)
			rest, _ := vector.Sub(x, y)
			vector.Within(x, y)
			vector.Same(x, y)
			vector.Right(x)
			vector.Fits(x)
			vector.Text(x)
			vector.Get(x, "zz")
			asTold := slices.Clone(sum)
			for i := range rest {
				rest[i] = api.Entry{}
			}
			if !slices.Equal(sum, asTold) {
				t.Fatal("two answers share memory")
			}
			for i := range sum {
				sum[i] = api.Entry{}
			}
			_ = append(sum, api.Entry{})
			_ = append(rest, api.Entry{})
			if !slices.Equal(wholeX, wasX) || !slices.Equal(wholeY, wasY) {
				t.Fatalf("%v, %v: written into", a, b)
			}
		}
	}
	l, whole := behind(list(res("b", 2), res("a", 1), res("b", 3)), res("c", 4))
	was := slices.Clone(whole)
	v, _ := vector.Of(l)
	if w, _ := vector.Of(l); !slices.Equal(whole, was) || !slices.Equal(v, w) {
		t.Error("Of: written into")
	}
	if got := vector.Get(vec(entry("a", 1), entry("b", 2))[:1], "b"); got != zero {
		t.Error("Get: what lies behind the list is read")
	}
}

// P1 and P2: every call ends without a panic, and tells the same of the same, whatever it was asked between.
func TestCallsEndAndTellTheSame(t *testing.T) {
	type answers struct {
		right, fits, same, within bool
		name, text, sum, rest     string
		errnos                    [4]api.Errno
		parsed, of                int
		get                       api.Wide
	}
	ask := func(a, b api.Vector, s string) (x answers) {
		x.right, x.fits, x.same, x.text, x.get = vector.Right(a), vector.Fits(a), vector.Same(a, b), vector.Text(a), vector.Get(a, s)
		x.within, x.name = vector.Within(a, b)
		sum, e := vector.Add(a, b)
		rest, f := vector.Sub(a, b)
		parsed, g := vector.Parse(s)
		of, h := vector.Of(parsed)
		x.sum, x.rest, x.parsed, x.of = vector.Text(sum), vector.Text(rest), len(parsed), len(of)
		x.errnos = [4]api.Errno{e, f, g, h}
		return x
	}
	long := make(api.Vector, 1<<18)
	for i := range long {
		long[i] = entry("n"+strconv.Itoa(1<<20+i), int64(i+1))
	}
	l := append(drawn(60), append(wrong(), nil, long, long[:1<<17], slices.Repeat(vec(entry("a", 1)), 1<<18))...)
	lines := []string{"", "a", "a=1,b=2k", "a=8388608Ti", strings.Repeat(",", 1<<20), strings.Repeat("=", 1<<20), strings.Repeat("a", 1<<20) + "=1", "a=" + strings.Repeat("9", 1<<20), strings.Join(parts(900), ","), "\x00", "\xff=\xff"}
	first := make([]answers, len(l))
	for i, v := range l {
		first[i] = ask(v, l[len(l)-1-i], lines[i%len(lines)])
	}
	for j := range l {
		i := len(l) - 1 - j
		if ask(l[i], l[len(l)-1-i], lines[i%len(lines)]) != first[i] {
			t.Errorf("%d: told otherwise", i)
		}
	}
}
