package wide_test

import (
	"fmt"
	"math"
	"math/big"
	"math/rand"
	"sort"
	"strings"
	"testing"

	"scutage/api"
	"scutage/wide"
)

var (
	zero  = api.Wide{}
	least = api.Wide{Hi: math.MinInt64}
	most  = api.Wide{Hi: math.MaxInt64, Lo: math.MaxUint64}

	bigLeast = new(big.Int).Lsh(big.NewInt(-1), 127)
	bigMost  = new(big.Int).Not(bigLeast)
)

// asBig says once more, in another way, which number it is: Hi times 2^64, and Lo.
func asBig(w api.Wide) *big.Int {
	b := new(big.Int).Mul(big.NewInt(w.Hi), new(big.Int).Lsh(big.NewInt(1), 64))
	return b.Add(b, new(big.Int).SetUint64(w.Lo))
}

// fromBig is the wide number that it is; false, and zero, if it is none.
func fromBig(b *big.Int) (api.Wide, bool) {
	if b.Cmp(bigLeast) < 0 || b.Cmp(bigMost) > 0 {
		return zero, false
	}
	low := new(big.Int).And(b, new(big.Int).SetUint64(math.MaxUint64))
	return api.Wide{Hi: new(big.Int).Rsh(b, 64).Int64(), Lo: low.Uint64()}, true
}

// small are numbers at the edges of those that fit.
func small() []int64 {
	return []int64{
		math.MinInt64, math.MinInt64 + 1, -1 << 62, -1<<32 - 1, -1 << 32, -10, -9, -3, -2, -1,
		0, 1, 2, 3, 9, 10, 11, 1<<31 - 1, 1 << 31, 1<<32 - 1, 1 << 32, 1 << 53, 1<<53 + 1, 1e18, 1 << 62, math.MaxInt64 - 1, math.MaxInt64,
	}
}

// edges are numbers whose halves are at the edges of what halves may be.
func edges() []api.Wide {
	var l []api.Wide
	for _, hi := range []int64{math.MinInt64, math.MinInt64 + 1, -1<<62 - 1, -1 << 62, -2, -1, 0, 1, 2, 1<<62 - 1, 1 << 62, math.MaxInt64 - 1, math.MaxInt64} {
		for _, lo := range []uint64{0, 1, 2, 1<<32 - 1, 1 << 32, 1<<63 - 1, 1 << 63, 1<<63 + 1, math.MaxUint64 - 1, math.MaxUint64} {
			l = append(l, api.Wide{Hi: hi, Lo: lo})
		}
	}
	return l
}

// numbers are the edges, each power of two, of ten, and of ten times 2^64, what stands beside them, all of these below 0, and others of all lengths.
func numbers() []api.Wide {
	l := edges()
	add := func(b *big.Int) {
		for d := int64(-1); d <= 1; d++ {
			x := new(big.Int).Add(b, big.NewInt(d))
			for _, y := range []*big.Int{x, new(big.Int).Neg(x)} {
				if w, ok := fromBig(y); ok {
					l = append(l, w)
				}
			}
		}
	}
	for n := range uint(128) {
		add(new(big.Int).Lsh(big.NewInt(1), n))
	}
	for n := range int64(39) {
		add(new(big.Int).Exp(big.NewInt(10), big.NewInt(n), nil))
	}
	for n := range int64(19) { // without its last figures, the lower half is 0
		add(new(big.Int).Lsh(new(big.Int).Exp(big.NewInt(10), big.NewInt(n), nil), 64))
	}
	r := rand.New(rand.NewSource(2))
	for n := range uint(128) {
		w, _ := fromBig(new(big.Int).Rsh(asBig(api.Wide{Hi: int64(r.Uint64()), Lo: r.Uint64()}), n))
		l = append(l, w)
	}
	return l
}

// P2.1, Of: the same number, on either side of 0.
func TestOfTells(t *testing.T) {
	for n, want := range map[int64]api.Wide{
		0:             {},
		1:             {Lo: 1},
		-1:            {Hi: -1, Lo: math.MaxUint64},
		-2:            {Hi: -1, Lo: math.MaxUint64 - 1},
		math.MaxInt64: {Lo: 1<<63 - 1},
		math.MinInt64: {Hi: -1, Lo: 1 << 63},
	} {
		if got := wide.Of(n); got != want {
			t.Errorf("%d: %v", n, got)
		}
	}
	for _, n := range small() {
		if got := asBig(wide.Of(n)); got.Cmp(big.NewInt(n)) != 0 {
			t.Errorf("%d: %d", n, got)
		}
	}
}

// P2.1, Add and Sub: as they come, and the numbers on either side of which there is none.
func TestAddAndSubTell(t *testing.T) {
	one := wide.Of(1)
	for i, c := range []struct {
		f    func(a, b api.Wide) (api.Wide, bool)
		a, b api.Wide
		want api.Wide
		ok   bool
	}{
		{wide.Add, wide.Of(2), wide.Of(3), wide.Of(5), true},
		{wide.Add, wide.Of(2), wide.Of(-3), wide.Of(-1), true},
		{wide.Add, wide.Of(math.MaxInt64), one, api.Wide{Lo: 1 << 63}, true},
		{wide.Add, wide.Of(math.MinInt64), wide.Of(-1), api.Wide{Hi: -1, Lo: 1<<63 - 1}, true},
		{wide.Add, api.Wide{Lo: math.MaxUint64}, one, api.Wide{Hi: 1}, true},
		{wide.Add, wide.Of(-1), one, zero, true},
		{wide.Add, most, zero, most, true},
		{wide.Add, most, one, zero, false},
		{wide.Add, most, most, zero, false},
		{wide.Add, api.Wide{Hi: math.MaxInt64, Lo: math.MaxUint64 - 1}, one, most, true},
		{wide.Add, api.Wide{Hi: 1 << 62}, api.Wide{Hi: 1 << 62}, zero, false},
		{wide.Add, api.Wide{Hi: 1 << 62}, api.Wide{Hi: 1<<62 - 1, Lo: math.MaxUint64}, most, true},
		{wide.Add, least, zero, least, true},
		{wide.Add, least, wide.Of(-1), zero, false},
		{wide.Add, least, least, zero, false},
		{wide.Add, api.Wide{Hi: -1 << 62}, api.Wide{Hi: -1 << 62}, least, true},
		{wide.Add, least, most, wide.Of(-1), true},
		{wide.Sub, wide.Of(5), wide.Of(3), wide.Of(2), true},
		{wide.Sub, wide.Of(3), wide.Of(5), wide.Of(-2), true},
		{wide.Sub, api.Wide{Hi: 1}, one, api.Wide{Lo: math.MaxUint64}, true},
		{wide.Sub, zero, one, wide.Of(-1), true},
		{wide.Sub, least, zero, least, true},
		{wide.Sub, least, one, zero, false},
		{wide.Sub, api.Wide{Hi: math.MinInt64, Lo: 1}, one, least, true},
		{wide.Sub, zero, least, zero, false},
		{wide.Sub, zero, most, api.Wide{Hi: math.MinInt64, Lo: 1}, true},
		{wide.Sub, wide.Of(-1), least, most, true},
		{wide.Sub, wide.Of(-1), most, least, true},
		{wide.Sub, wide.Of(-2), most, zero, false},
		{wide.Sub, least, least, zero, true},
		{wide.Sub, most, most, zero, true},
		{wide.Sub, most, wide.Of(-1), zero, false},
		{wide.Sub, most, least, zero, false},
		{wide.Sub, least, most, zero, false},
	} {
		if got, ok := c.f(c.a, c.b); got != c.want || ok != c.ok {
			t.Errorf("%d: %v %v", i, got, ok)
		}
	}
}

// P2.1, Add, Sub and Compare: any two, as numbers of any length have it; T5: where there is no sum, none is told.
func TestAnyTwo(t *testing.T) {
	l := numbers()
	bigs := make([]*big.Int, len(l))
	for i, w := range l {
		bigs[i] = asBig(w)
	}
	var sums, none int
	x := new(big.Int)
	for i, a := range l {
		for j, b := range l {
			want, ok := fromBig(x.Add(bigs[i], bigs[j]))
			if got, is := wide.Add(a, b); got != want || is != ok {
				t.Fatalf("%v and %v: %v %v", a, b, got, is)
			}
			if ok {
				sums++
			} else {
				none++
			}
			want, ok = fromBig(x.Sub(bigs[i], bigs[j]))
			if got, is := wide.Sub(a, b); got != want || is != ok {
				t.Fatalf("%v less %v: %v %v", a, b, got, is)
			}
			if got := wide.Compare(a, b); got != bigs[i].Cmp(bigs[j]) {
				t.Fatalf("%v by %v: %d", a, b, got)
			}
		}
	}
	if sums == 0 || none == 0 {
		t.Errorf("%d sums, %d times none", sums, none)
	}
}

// P2.1, Compare: -1, 1, and 0, no other number, and the upper half ahead of the lower one.
func TestCompareTells(t *testing.T) {
	for _, c := range []struct{ a, b api.Wide }{
		{least, most}, {least, zero}, {zero, most},
		{least, api.Wide{Hi: math.MinInt64, Lo: 1}},
		{wide.Of(-1), zero}, {zero, wide.Of(1)}, {wide.Of(-1), wide.Of(1)}, {wide.Of(-2), wide.Of(-1)},
		{wide.Of(-100), wide.Of(100)},
		{wide.Of(1), api.Wide{Lo: 1 << 63}},
		{api.Wide{Lo: 1<<63 - 1}, api.Wide{Lo: 1 << 63}},
		{api.Wide{Lo: math.MaxUint64}, api.Wide{Hi: 1}},
		{api.Wide{Hi: 1, Lo: 5}, api.Wide{Hi: 2, Lo: 3}},
		{api.Wide{Hi: -2, Lo: math.MaxUint64}, api.Wide{Hi: -1}},
		{api.Wide{Hi: -1, Lo: 1<<63 - 1}, api.Wide{Hi: -1, Lo: 1 << 63}},
	} {
		if x, y := wide.Compare(c.a, c.b), wide.Compare(c.b, c.a); x != -1 || y != 1 {
			t.Errorf("%v by %v: %d, and %d", c.a, c.b, x, y)
		}
	}
	for _, w := range numbers() {
		if x := wide.Compare(w, w); x != 0 {
			t.Errorf("%v by itself: %d", w, x)
		}
	}
}

// P2.1, Fits: what just fits, and what just doesn't.
func TestFitsTells(t *testing.T) {
	for _, c := range []struct {
		w  api.Wide
		n  int64
		ok bool
	}{
		{zero, 0, true},
		{api.Wide{Lo: 5}, 5, true},
		{api.Wide{Lo: 1<<63 - 1}, math.MaxInt64, true},
		{api.Wide{Lo: 1 << 63}, 0, false},
		{api.Wide{Lo: math.MaxUint64}, 0, false},
		{api.Wide{Hi: 1}, 0, false},
		{api.Wide{Hi: 1, Lo: 5}, 0, false},
		{api.Wide{Hi: -1, Lo: math.MaxUint64}, -1, true},
		{api.Wide{Hi: -1, Lo: 1 << 63}, math.MinInt64, true},
		{api.Wide{Hi: -1, Lo: 1<<63 - 1}, 0, false},
		{api.Wide{Hi: -1}, 0, false},
		{api.Wide{Hi: -2, Lo: math.MaxUint64}, 0, false},
		{most, 0, false},
		{least, 0, false},
	} {
		if n, ok := wide.Fits(c.w); n != c.n || ok != c.ok {
			t.Errorf("%v: %d %v", c.w, n, ok)
		}
	}
	for _, w := range numbers() {
		var want int64
		b := asBig(w)
		if b.IsInt64() {
			want = b.Int64()
		}
		if n, ok := wide.Fits(w); n != want || ok != b.IsInt64() {
			t.Errorf("%v: %d %v", w, n, ok)
		}
	}
}

// P2.1, Shift: by 0, 63, 64 and 127, of numbers on either side of 0.
func TestShiftTells(t *testing.T) {
	for i, c := range []struct {
		w    api.Wide
		n    int
		want api.Wide
		ok   bool
	}{
		{wide.Of(5), 0, wide.Of(5), true},
		{most, 0, most, true},
		{least, 0, least, true},
		{wide.Of(1), 1, wide.Of(2), true},
		{wide.Of(-3), 1, wide.Of(-6), true},
		{wide.Of(1), 63, api.Wide{Lo: 1 << 63}, true},
		{wide.Of(-1), 63, api.Wide{Hi: -1, Lo: 1 << 63}, true},
		{wide.Of(3), 63, api.Wide{Hi: 1, Lo: 1 << 63}, true},
		{wide.Of(1), 64, api.Wide{Hi: 1}, true},
		{wide.Of(-3), 64, api.Wide{Hi: -3}, true},
		{wide.Of(math.MaxInt64), 64, api.Wide{Hi: math.MaxInt64}, true},
		{wide.Of(math.MinInt64), 64, least, true},
		{api.Wide{Lo: 1 << 63}, 64, zero, false},
		{api.Wide{Hi: -1, Lo: 1<<63 - 1}, 64, zero, false},
		{api.Wide{Hi: 1, Lo: 1}, 64, zero, false},
		{wide.Of(math.MaxInt64), 65, zero, false},
		{wide.Of(1), 126, api.Wide{Hi: 1 << 62}, true},
		{wide.Of(2), 126, zero, false},
		{wide.Of(-2), 126, least, true},
		{wide.Of(-3), 126, zero, false},
		{wide.Of(1), 127, zero, false},
		{wide.Of(-1), 127, least, true},
		{wide.Of(-2), 127, zero, false},
		{zero, 127, zero, true},
		{api.Wide{Hi: 1}, 62, api.Wide{Hi: 1 << 62}, true},
		{api.Wide{Hi: 1}, 63, zero, false},
		{api.Wide{Hi: 1}, 127, zero, false},
		{api.Wide{Lo: 1 << 63}, 1, api.Wide{Hi: 1}, true},
		{most, 1, zero, false},
		{most, 127, zero, false},
		{least, 1, zero, false},
		{least, 127, zero, false},
		{api.Wide{Hi: 1 << 62}, 1, zero, false},
		{api.Wide{Hi: -1 << 62}, 1, least, true},
	} {
		if got, ok := wide.Shift(c.w, c.n); got != c.want || ok != c.ok {
			t.Errorf("%d: %v %v", i, got, ok)
		}
	}
}

// P2.1, Shift: any number by any that it may be; T5: what goes over the edge is told as none.
func TestShiftOfAny(t *testing.T) {
	x := new(big.Int)
	for _, w := range numbers() {
		b := asBig(w)
		for n := range 128 {
			want, ok := fromBig(x.Lsh(b, uint(n)))
			if got, is := wide.Shift(w, n); got != want || is != ok {
				t.Fatalf("%v by %d: %v %v", w, n, got, is)
			}
		}
	}
}

// P2.1, Shift: below 0 and above 127 there is none, of 0 neither, however many bits the number has.
func TestShiftByWrongNumbers(t *testing.T) {
	for _, n := range []int{-1, -2, -64, -127, -128, 128, 129, 191, 192, 255, 256, 257, 1 << 16, math.MaxInt32, math.MinInt32, 1 << 32, 1<<32 + 1, -1 << 32, math.MaxInt64, math.MinInt64, math.MinInt64 + 1} {
		for _, w := range append(edges(), wide.Of(5), zero) {
			if got, ok := wide.Shift(w, n); got != zero || ok {
				t.Errorf("%v by %d: %v %v", w, n, got, ok)
			}
		}
	}
}

// P2.1, Text: 0, numbers below 0, noughts within and at the end, the greatest one and the least one.
func TestTextTells(t *testing.T) {
	for want, w := range map[string]api.Wide{
		"0":                     zero,
		"1":                     wide.Of(1),
		"-1":                    wide.Of(-1),
		"9":                     wide.Of(9),
		"10":                    wide.Of(10),
		"-10":                   wide.Of(-10),
		"100":                   wide.Of(100),
		"1002003":               wide.Of(1002003),
		"9223372036854775807":   wide.Of(math.MaxInt64),
		"9223372036854775808":   {Lo: 1 << 63},
		"-9223372036854775808":  wide.Of(math.MinInt64),
		"-9223372036854775809":  {Hi: -1, Lo: 1<<63 - 1},
		"18446744073709551615":  {Lo: math.MaxUint64},
		"18446744073709551616":  {Hi: 1},
		"-18446744073709551616": {Hi: -1},
		"184467440737095516165": {Hi: 10, Lo: 5},
		"100000000000000000000": {Hi: 5, Lo: 7766279631452241920},
		"170141183460469231731687303715884105727":  most,
		"-170141183460469231731687303715884105727": {Hi: math.MinInt64, Lo: 1},
		"-170141183460469231731687303715884105728": least,
	} {
		if got := wide.Text(w); got != want {
			t.Errorf("%q: %q", want, got)
		}
	}
	for _, w := range numbers() {
		if got, want := wide.Text(w), asBig(w).String(); got != want {
			t.Errorf("%q: %q", want, got)
		}
	}
}

// P2.1, Text: no needless noughts, no sign but that of a number below 0; a text of its own for each number.
func TestTextsAreTheirs(t *testing.T) {
	by := map[string]api.Wide{}
	for _, w := range numbers() {
		s := wide.Text(w)
		if x, ok := by[s]; ok && x != w {
			t.Errorf("%q: %v and %v", s, x, w)
		}
		by[s] = w
		rest := strings.TrimPrefix(s, "-")
		if (rest != s) != (w.Hi < 0) || rest == "" || strings.Trim(rest, "0123456789") != "" || rest[0] == '0' && s != "0" {
			t.Errorf("%v: %q", w, s)
		}
	}
}

// P2.2: a sum, less what came to it, is as it was; a difference, and what was taken away, too.
func TestSumsComeBack(t *testing.T) {
	l := numbers()
	for _, a := range l {
		for _, b := range l {
			if s, ok := wide.Add(a, b); ok {
				if x, is := wide.Sub(s, b); x != a || !is {
					t.Fatalf("%v and %v less it: %v %v", a, b, x, is)
				}
				if x, is := wide.Sub(s, a); x != b || !is {
					t.Fatalf("%v less it, and %v: %v %v", a, b, x, is)
				}
			}
			if d, ok := wide.Sub(a, b); ok {
				if x, is := wide.Add(d, b); x != a || !is {
					t.Fatalf("%v less %v and it: %v %v", a, b, x, is)
				}
			}
		}
	}
}

// P2.2: sums do not hang on the order: not of two, and not of three where each has one.
func TestSumsInAnyOrder(t *testing.T) {
	l := numbers()
	for _, a := range l {
		for _, b := range l {
			x, ok := wide.Add(a, b)
			if y, is := wide.Add(b, a); x != y || ok != is {
				t.Fatalf("%v and %v: %v %v", a, b, y, is)
			}
		}
	}
	var whole int
	l = edges()
	for _, a := range l {
		for _, b := range l {
			ab, ok := wide.Add(a, b)
			for _, c := range l {
				bc, is := wide.Add(b, c)
				if !ok || !is {
					continue
				}
				whole++
				x, hasX := wide.Add(ab, c)
				y, hasY := wide.Add(a, bc)
				if x != y || hasX != hasY {
					t.Fatalf("%v, %v, %v: %v %v, and %v %v", a, b, c, x, hasX, y, hasY)
				}
			}
		}
	}
	if whole == 0 {
		t.Error("no three")
	}
}

// P2.3: Compare is an order: of two just one is ahead, or they are one; what is ahead of what is ahead is ahead.
func TestCompareIsAnOrder(t *testing.T) {
	l := edges()
	for _, a := range l {
		for _, b := range l {
			ab := wide.Compare(a, b)
			if ab != -wide.Compare(b, a) || (ab == 0) != (a == b) {
				t.Fatalf("%v by %v: %d", a, b, ab)
			}
			for _, c := range l {
				if bc := wide.Compare(b, c); ab <= 0 && bc <= 0 && wide.Compare(a, c) != min(ab, bc) {
					t.Fatalf("%v, %v, %v: %d", a, b, c, wide.Compare(a, c))
				}
			}
		}
	}
}

// P2.3: sums and differences keep the order.
func TestSumsKeepTheOrder(t *testing.T) {
	l := edges()
	for _, a := range l {
		for _, b := range l {
			ab := wide.Compare(a, b)
			for _, c := range l {
				x, ok := wide.Add(a, c)
				y, is := wide.Add(b, c)
				if ok && is && wide.Compare(x, y) != ab {
					t.Fatalf("%v, %v, and %v: %d", a, b, c, wide.Compare(x, y))
				}
				x, ok = wide.Sub(a, c)
				y, is = wide.Sub(b, c)
				if ok && is && wide.Compare(x, y) != ab {
					t.Fatalf("%v, %v, less %v: %d", a, b, c, wide.Compare(x, y))
				}
			}
		}
	}
}

// P2.3: what fits is as the numbers are: they come back, in the same order, and with the same figures.
func TestWhatFitsIsAsTheNumbersAre(t *testing.T) {
	for _, m := range small() {
		if n, ok := wide.Fits(wide.Of(m)); n != m || !ok {
			t.Errorf("%d: %d %v", m, n, ok)
		}
		if s := wide.Text(wide.Of(m)); s != fmt.Sprint(m) {
			t.Errorf("%d: %q", m, s)
		}
		for _, n := range small() {
			want := 0
			if m < n {
				want = -1
			} else if m > n {
				want = 1
			}
			if got := wide.Compare(wide.Of(m), wide.Of(n)); got != want {
				t.Errorf("%d by %d: %d", m, n, got)
			}
		}
	}
	for _, w := range numbers() {
		if n, ok := wide.Fits(w); ok && wide.Of(n) != w {
			t.Errorf("%v: %d", w, n)
		}
	}
}

// P2.3: sorted by Compare, numbers rise.
func TestSortedNumbersRise(t *testing.T) {
	l := numbers()
	sort.Slice(l, func(i, j int) bool { return wide.Compare(l[i], l[j]) < 0 })
	if l[0] != least || l[len(l)-1] != most {
		t.Errorf("from %v to %v", l[0], l[len(l)-1])
	}
	for i := 1; i < len(l); i++ {
		if asBig(l[i-1]).Cmp(asBig(l[i])) > 0 {
			t.Fatalf("%v ahead of %v", l[i-1], l[i])
		}
	}
}

// P1 and P2: every call ends without a panic, and tells the same of the same, whatever it was asked between.
func TestCallsEndAndTellTheSame(t *testing.T) {
	type answers struct {
		of, sum, rest, shifted   api.Wide
		isSum, isRest, isShifted bool
		order                    int
		n                        int64
		fits                     bool
		text                     string
	}
	ask := func(w api.Wide) (a answers) {
		a.of = wide.Of(w.Hi)
		a.sum, a.isSum = wide.Add(w, api.Wide{Hi: w.Hi, Lo: ^w.Lo})
		a.rest, a.isRest = wide.Sub(w, api.Wide{Hi: ^w.Hi, Lo: w.Lo})
		a.shifted, a.isShifted = wide.Shift(w, int(w.Lo))
		a.order = wide.Compare(w, api.Wide{Hi: int64(w.Lo), Lo: uint64(w.Hi)})
		a.n, a.fits = wide.Fits(w)
		a.text = wide.Text(w)
		return a
	}
	l := numbers()
	first := map[api.Wide]answers{}
	for _, w := range l {
		first[w] = ask(w)
	}
	for i := range l {
		w := l[len(l)-1-i]
		if ask(w) != first[w] {
			t.Errorf("%v: told otherwise", w)
		}
	}
}
