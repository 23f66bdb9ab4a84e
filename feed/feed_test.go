package feed_test

import (
	"fmt"
	"math"
	"slices"
	"strings"
	"testing"

	"scutage/api"
	"scutage/feed"
)

// named is the key that a letter stands for.
func named(letter rune) api.Key {
	return api.Key{Space: "a", Kind: "pod", Name: string(letter)}
}

// along is a feed along a log of the keys of these letters.
func along(letters string) *feed.Feed {
	f := feed.New()
	for _, letter := range letters {
		f.Grow(named(letter))
	}
	return f
}

// after is a feed along a log behind calls that must be OK: "t0 d1 c2" tells 0, drops 1, covers 2.
func after(t *testing.T, letters, calls string) *feed.Feed {
	t.Helper()
	f := along(letters)
	does(t, f, calls)
	return f
}

// does calls what must be OK.
func does(t *testing.T, f *feed.Feed, calls string) {
	t.Helper()
	for _, s := range strings.Fields(calls) {
		if err := try(f, read(t, s)); err != api.OK {
			t.Fatalf("%s of %s: %d", s, calls, err)
		}
	}
}

// read is a call's text as a call.
func read(t *testing.T, s string) call {
	t.Helper()
	c := call{does: s[0]}
	if _, err := fmt.Sscan(s[1:], &c.n); err != nil || !strings.Contains("tdc", s[:1]) {
		t.Fatal(s)
	}
	return c
}

// refuses calls what must answer an error, and change nothing.
func refuses(t *testing.T, f *feed.Feed, want api.Errno, c call) {
	t.Helper()
	was := look(f)
	if err := try(f, c); err != want {
		t.Errorf("%s: %c %d: %d, not %d", was, c.does, c.n, err, want)
	}
	if is := look(f); is != was {
		t.Errorf("%c %d changes %s to %s", c.does, c.n, was, is)
	}
}

// has tells whether a feed has so great a version that is safe, whether it is settled, and what is open.
func has(t *testing.T, f *feed.Feed, safe int64, settled bool, open ...int) {
	t.Helper()
	if f.Safe() != safe || f.Settled() != settled || !slices.Equal(f.Open(), open) {
		t.Errorf("%s, not safe %d, settled %v, open %v", look(f), safe, settled, open)
	}
}

// P10.1, New: along no log nothing is open, all is settled, and there is nothing to be told, or dropped, or covered above 0.
func TestNew(t *testing.T) {
	f := feed.New()
	if f == nil {
		t.Fatal("nil")
	}
	has(t, f, 0, true)
	if f.Len() != 0 {
		t.Errorf("Len: %d", f.Len())
	}
	for _, n := range []int64{math.MinInt64, -1, 0, 1, math.MaxInt64} {
		refuses(t, f, api.ErrArg, call{does: 't', n: n})
		refuses(t, f, api.ErrArg, call{does: 'd', n: n})
		if n != 0 {
			refuses(t, f, api.ErrArg, call{does: 'c', n: n})
		}
	}
	does(t, f, "c0 c0")
	has(t, f, 0, true)
	f.Grow(named('a'))
	if other := feed.New(); other.Len() != 0 || !other.Settled() {
		t.Error("another new one has what the first one has")
	}
}

// P10.1, Grow: an event more each time, open, whose version is the length; of a key that is new, and of one that is not.
func TestGrow(t *testing.T) {
	f := feed.New()
	var open []int
	for i, letter := range "abacab" {
		f.Grow(named(letter))
		open = append(open, i)
		has(t, f, 0, false, open...)
		if f.Len() != i+1 {
			t.Errorf("%d: Len: %d", i, f.Len())
		}
	}
	does(t, f, "c6")
	has(t, f, 6, true)
	f.Grow(named('a'))
	has(t, f, 6, false, 6)
	does(t, f, "t6")
	has(t, f, 7, true)
	f.Grow(named('d'))
	has(t, f, 7, false, 7)
}

// P10.1: a key is any; two are one if all their parts are.
func TestAnyKeys(t *testing.T) {
	keys := []api.Key{{}, {Kind: "a"}, {Space: "a"}, {Name: "a"}, {Kind: "a/b", Space: "c", Name: "d"}, {Kind: "b", Space: "c/a", Name: "d"}, {Kind: "b", Space: "c", Name: "a/d"}, {Kind: "\xff", Space: "A", Name: "-"}, {Kind: "a", Space: "b"}, {Kind: "b", Space: "a"}, {Name: strings.Repeat("x", 1000)}}
	f := feed.New()
	for range 2 {
		for _, k := range keys {
			f.Grow(k)
		}
	}
	for i := len(keys) - 1; i >= 0; i-- {
		refuses(t, f, api.ErrOrder, call{does: 't', n: int64(len(keys) + i)})
		does(t, f, fmt.Sprintf("t%d t%d", i, len(keys)+i))
	}
	has(t, f, int64(2*len(keys)), true)
}

// P10.1, Tell, and Drop: a number below 0, at the length, and above it, at each length.
func TestNumbersOfNone(t *testing.T) {
	for _, calls := range []string{"", "t0", "d0", "c1", "c2", "c3", "t1 t2", "d0 d1 d2"} {
		f := after(t, "abc", calls)
		for _, n := range []int64{-1, -2, math.MinInt32, math.MinInt64, 3, 4, 100, math.MaxInt32, math.MaxInt64} {
			refuses(t, f, api.ErrArg, call{does: 't', n: n})
			refuses(t, f, api.ErrArg, call{does: 'd', n: n})
		}
	}
}

// P10.1, Tell: of an event that is open, told, told again, dropped, open and covered, told and covered, dropped and covered.
func TestTell(t *testing.T) {
	f := after(t, "ab", "t0")
	has(t, f, 1, false, 1)
	does(t, f, "t0 t0")
	has(t, f, 1, false, 1)
	does(t, f, "t1 t0 t1")
	has(t, f, 2, true)
	for _, calls := range []string{"c2", "t0 t1 c2", "t1 c1"} {
		does(t, after(t, "ab", calls), "t0 t1 t0 t1")
	}
	for _, calls := range []string{"d0", "d0 c0", "d0 c1", "d0 c2", "d0 t1 c2", "d0 d1"} {
		refuses(t, after(t, "ab", calls), api.ErrStale, call{does: 't', n: 0})
	}
}

// P10.1: what is told where it is covered already is told all the same: it is not dropped any more, and nothing else is to be seen of it.
func TestToldThoughCovered(t *testing.T) {
	f := after(t, "aab", "c2")
	has(t, f, 2, false, 2)
	does(t, f, "t1 t0 t0")
	has(t, f, 2, false, 2)
	refuses(t, f, api.ErrStale, read(t, "d0"))
	refuses(t, f, api.ErrStale, read(t, "d1"))
}

// P10.1 and P10.3: a Tell with events of its key ahead of it: open, told, dropped, open and covered, dropped and covered, and some of these; and with others of another key.
func TestTurns(t *testing.T) {
	for _, c := range []struct {
		letters, calls string
		want           api.Errno
	}{
		{"aa", "", api.ErrOrder},
		{"aa", "t0", api.OK},
		{"aa", "d0", api.OK},
		{"aa", "c1", api.OK},
		{"aa", "c2", api.OK},
		{"aa", "t0 c1", api.OK},
		{"aa", "d0 c1", api.OK},
		{"aa", "c0", api.ErrOrder},
		{"ab", "", api.OK},
		{"ba", "", api.OK},
		{"aaa", "", api.ErrOrder},
		{"aaa", "t0", api.ErrOrder},
		{"aaa", "d0", api.ErrOrder},
		{"aaa", "d1", api.ErrOrder},
		{"aaa", "c1", api.ErrOrder},
		{"aaa", "d1 c1", api.OK},
		{"aaa", "d1 t0", api.OK},
		{"aaa", "d0 d1", api.OK},
		{"aaa", "t0 t1", api.OK},
		{"aaa", "d0 t1", api.OK},
		{"aaa", "c1 t1", api.OK},
		{"aaa", "c1 d1", api.OK},
		{"aaa", "c2", api.OK},
		{"aba", "", api.ErrOrder},
		{"aba", "t1", api.ErrOrder},
		{"aba", "d1", api.ErrOrder},
		{"aba", "c1", api.OK},
		{"aba", "t0", api.OK},
		{"aba", "d0", api.OK},
		{"bba", "", api.OK},
		{"bba", "d1", api.OK},
		{"abbba", "t1 t2 t3", api.ErrOrder},
		{"aaaba", "d1 d2", api.ErrOrder},
		{"aaaba", "d2 d1 d0", api.OK},
		{"aaaba", "d2 d1 c1", api.OK},
		{"aaaaa", "d0 t1 d2 d3", api.OK},
		{"aaaaa", "d0 t1 d3", api.ErrOrder},
		{"aaaaa", "t0 t1 d2", api.ErrOrder},
		{"aaaaa", "c2 d3", api.ErrOrder},
		{"aaaaa", "c3 d3", api.OK},
	} {
		f := after(t, c.letters, c.calls)
		last := call{does: 't', n: int64(len(c.letters) - 1)}
		if c.want == api.OK {
			does(t, f, fmt.Sprintf("t%d t%d", last.n, last.n))
			continue
		}
		refuses(t, f, c.want, last)
		// Its turn comes, once those ahead are dropped; another time, once they are covered.
		for _, i := range f.Open() {
			if i < int(last.n) {
				does(t, f, fmt.Sprintf("d%d", i))
			}
		}
		does(t, f, fmt.Sprintf("t%d", last.n))
		f = after(t, c.letters, c.calls)
		does(t, f, fmt.Sprintf("c%d t%d", last.n, last.n))
	}
}

// P10.1: what comes behind, of its key or of others, does not hinder a Tell; what is dropped is stale, ahead of being out of its turn.
func TestWhatComesBehind(t *testing.T) {
	for _, calls := range []string{"", "d2", "t1", "d1", "d2 d1", "t1 d2"} {
		does(t, after(t, "aba", calls), "t0 t0")
	}
	refuses(t, after(t, "aa", "d1"), api.ErrStale, read(t, "t1"))
	refuses(t, after(t, "aa", "d1 c1"), api.ErrStale, read(t, "t1"))
	f := after(t, "aaa", "t0 t1 t2 t1 t0")
	f.Grow(named('a'))
	does(t, f, "t0 t1 t2 d3 t0")
	has(t, f, 3, false)
}

// P10.1, Drop: of an event that is open, told, dropped, covered, and these with an event of its key ahead of it, or behind.
func TestDrop(t *testing.T) {
	f := after(t, "aab", "d1")
	has(t, f, 0, false, 0, 2)
	refuses(t, f, api.ErrStale, read(t, "d1"))
	does(t, f, "d0 d2")
	has(t, f, 0, false)
	for i := range int64(3) {
		refuses(t, f, api.ErrStale, call{does: 'd', n: i})
	}
	for _, calls := range []string{"t0", "t0 t0", "d0", "c1", "c3", "t0 c1", "c1 t0", "d0 c1"} {
		refuses(t, after(t, "aab", calls), api.ErrStale, read(t, "d0"))
	}
	f = after(t, "aab", "c1 d1 d2")
	has(t, f, 1, false)
	does(t, f, "c2")
	has(t, f, 2, false)
	does(t, f, "c3")
	has(t, f, 3, true)
}

// P10.1, Cover: a version below 0, of 0, of what is covered, of less, of the length, and above it.
func TestCover(t *testing.T) {
	wrong := []int64{math.MinInt64, math.MinInt64 + 1, math.MinInt32, -2, -1, 4, 5, 100, math.MaxInt32, math.MaxInt32 + 1, 1 << 32, 1<<32 + 2, math.MaxInt64}
	f := along("aba")
	for covered := range int64(4) {
		for range 2 {
			does(t, f, fmt.Sprintf("c%d", covered))
			for _, n := range wrong {
				refuses(t, f, api.ErrArg, call{does: 'c', n: n})
			}
			for n := range covered {
				refuses(t, f, api.ErrStale, call{does: 'c', n: n})
			}
			has(t, f, covered, covered == 3, []int{0, 1, 2}[covered:]...)
		}
	}
	f.Grow(named('b'))
	refuses(t, f, api.ErrStale, read(t, "c2"))
	does(t, f, "c3")
	has(t, f, 3, false, 3)
	does(t, f, "c4")
	has(t, f, 4, true)
}

// P10.1 and P10.2, Safe: at first, behind a gap, behind a Cover of a part, over what was told behind it, and of all.
func TestSafe(t *testing.T) {
	for _, c := range []struct {
		calls string
		safe  int64
		open  []int
	}{
		{"", 0, []int{0, 1, 2, 3, 4}},
		{"t1", 0, []int{0, 2, 3, 4}},
		{"t1 t2 t3 t4", 0, []int{0}},
		{"t0", 1, []int{1, 2, 3, 4}},
		{"t0 t1 t3", 2, []int{2, 4}},
		{"t0 t1 d2 t3 t4", 2, nil},
		{"d0", 0, []int{1, 2, 3, 4}},
		{"d0 c1", 1, []int{1, 2, 3, 4}},
		{"c2", 2, []int{2, 3, 4}},
		{"c2 t2", 3, []int{3, 4}},
		{"c2 t3", 2, []int{2, 4}},
		{"t3 c2", 2, []int{2, 4}},
		{"t2 t3 c2", 4, []int{4}},
		{"t2 t3 d4 c1 ", 1, []int{1}},
		{"t2 t3 c2 d4", 4, nil},
		{"t0 t1 t2 t3 t4", 5, nil},
		{"t4 t3 t2 t1 t0", 5, nil},
		{"c5", 5, nil},
		{"d0 d1 d2 d3 d4", 0, nil},
		{"d0 d1 d2 d3 d4 c5", 5, nil},
		{"d0 d2 t1 t3 t4", 0, nil},
		{"d0 d2 t1 t3 t4 c1", 2, nil},
		{"d0 d2 t1 t3 t4 c3", 5, nil},
	} {
		f := after(t, "abcde", c.calls)
		has(t, f, c.safe, c.safe == 5, c.open...)
		f.Grow(named('f'))
		has(t, f, c.safe, false, append(c.open, 5)...)
	}
}

// P10.1, Settled: the last event of each key counts, and no other, with one key, and with more.
func TestSettled(t *testing.T) {
	for _, c := range []struct {
		letters, calls string
		settled        bool
		safe           int64
	}{
		{"a", "", false, 0},
		{"a", "t0", true, 1},
		{"a", "d0", false, 0},
		{"a", "c1", true, 1},
		{"a", "d0 c1", true, 1},
		{"aaa", "t0 t1", false, 2},
		{"aaa", "c2", false, 2},
		{"aaa", "d0 d1 t2", true, 0},
		{"aaa", "t0 d1 t2", true, 1},
		{"aaa", "t0 t1 d2", false, 2},
		{"aaa", "d0 d1 d2", false, 0},
		{"ab", "t0", false, 1},
		{"ab", "t1", false, 0},
		{"ab", "t1 t0", true, 2},
		{"ab", "d0 t1", false, 0},
		{"ab", "d0 t1 c1", true, 2},
		{"abab", "d0 d1 t2 t3", true, 0},
		{"abab", "d0 d1 t2 d3", false, 0},
		{"abab", "c2 t3", false, 2},
		{"abab", "c2 d2 t3", false, 2},
		{"abab", "c3 t3", true, 4},
		{"abba", "t1 d0 d2", false, 0},
		{"abba", "d0 t3", false, 0},
		{"abba", "d0 d1 t2 t3", true, 0},
		{"abba", "t1 t2 d0", false, 0},
		{"abba", "c3", false, 3},
		{"abba", "c3 t3", true, 4},
		{"abcc", "c2 d2 t3", true, 2},
		{"abcc", "c1 d2 t3", false, 1},
		{"abcc", "c1 d2 t3 t1", true, 2},
	} {
		f := after(t, c.letters, c.calls)
		if f.Settled() != c.settled || f.Safe() != c.safe {
			t.Errorf("%s %s: %s", c.letters, c.calls, look(f))
		}
	}
}

// P10.1, Open: the numbers rise, whatever the keys are, and in whatever order they are told.
func TestOpenRises(t *testing.T) {
	f := feed.New()
	var left []int
	for i := range 300 {
		f.Grow(named(rune('a' + i*7%26)))
		left = append(left, i)
	}
	for i := range 300 {
		n := i * 101 % 300
		does(t, f, fmt.Sprintf("d%d", n))
		left = slices.DeleteFunc(left, func(x int) bool { return x == n })
		if !slices.Equal(f.Open(), left) {
			t.Fatalf("%v, not %v", f.Open(), left)
		}
	}
}

// Rule 8: a nil feed has nothing, and takes nothing.
func TestNil(t *testing.T) {
	var f *feed.Feed
	for range 2 {
		for _, n := range []int64{math.MinInt64, -1, 0, 1, math.MaxInt64} {
			for _, c := range "tdc" {
				refuses(t, f, api.ErrArg, call{does: byte(c), n: n})
			}
		}
		has(t, f, 0, false)
		if f.Len() != 0 {
			t.Errorf("Len: %d", f.Len())
		}
		f.Grow(named('a'))
		f.Grow(api.Key{})
	}
}

// P1: a zero Feed is as a new one, too.
func TestZero(t *testing.T) {
	f := &feed.Feed{}
	has(t, f, 0, true)
	refuses(t, f, api.ErrArg, read(t, "t0"))
	refuses(t, f, api.ErrArg, read(t, "c1"))
	does(t, f, "c0")
	f.Grow(named('a'))
	f.Grow(named('a'))
	has(t, f, 0, false, 0, 1)
	refuses(t, f, api.ErrOrder, read(t, "t1"))
	does(t, f, "t0 t1")
	has(t, f, 2, true)
}

// Rule 4: what was handed back is the caller's, who may change it, and does not change any more.
func TestWhatTheCallerChanges(t *testing.T) {
	f := after(t, "abcab", "t1")
	l, old := f.Open(), f.Open()
	for i := range l {
		l[i] = -7
	}
	_ = append(l[:0], 9, 9, 9, 9, 9, 9, 9, 9)
	has(t, f, 0, false, 0, 2, 3, 4)
	does(t, f, "d0 t2")
	f.Grow(named('d'))
	has(t, f, 0, false, 3, 4, 5)
	if !slices.Equal(old, []int{0, 2, 3, 4}) {
		t.Errorf("what was answered changes to %v", old)
	}
}

// Example 9 of the whole: an event is dropped, all is covered behind it.
func TestExample(t *testing.T) {
	f := after(t, "aba", "t0 d1 t2")
	has(t, f, 1, false)
	does(t, f, "c3")
	has(t, f, 3, true)
}

// The example of the project's README.
func TestReadme(t *testing.T) {
	f := along("aaa")
	refuses(t, f, api.ErrOrder, read(t, "t1"))
	does(t, f, "d0 t1")
	has(t, f, 0, false, 2)
	does(t, f, "c3")
	has(t, f, 3, true)
}
