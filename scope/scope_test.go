package scope_test

import (
	"math"
	"math/rand"
	"regexp"
	"slices"
	"sort"
	"strconv"
	"strings"
	"testing"

	"scutage/api"
	"scutage/scope"
)

const long24 = "abcdefghijklmnopqrstuvwx"

// oneLabel says once more, in another way, what a label is.
const oneLabel = `[a-z0-9]([a-z0-9-]{0,22}[a-z0-9])?`

var asLabel = regexp.MustCompile(`\A` + oneLabel + `\z`)

// asTerm likewise says what a term's text is, but for the order of its values.
var asTerm = regexp.MustCompile(`\A((class|noclass|terminating|running|best|notbest)|(in|notin):(` + oneLabel + `(,` + oneLabel + `){0,7}))\z`)

func term(op api.Op, values ...string) api.Term { return api.Term{Op: op, Values: values} }

func terms(l ...api.Term) api.Scope { return l }

// oddities are texts that are no labels, each for a reason of its own.
func oddities() []string {
	return []string{"", "-", "-a", "a-", long24 + "y", "A", "aB", "High", "a b", " a", "a ", "a\n", "a\x00", "a/b", "a=b", ",", "a,b", "a,", ";", "a;b", ":", "a:b", "a_b", "a.b", "`", "{", "é", "\xff", "a\xff"}
}

// rising are so many labels that rise.
func rising(count int) []string {
	var l []string
	for i := range count {
		l = append(l, "n"+strconv.Itoa(1000+i))
	}
	return l
}

// lists are values, those that a term may have, and those that none may.
func lists() [][]string {
	l := [][]string{
		nil, {}, {"a"}, {"b"}, {"0"}, {"all"}, {"in"}, {"high"}, {long24}, {"a", "b"}, {"high", "low"}, {"10", "9"}, {"9", "a"},
		{"a", "a-b", "a0", "aa"}, {"a", "b", "high"}, {long24[:23], long24},
		{"b", "a"}, {"a", "a"}, {"a", "b", "a"}, {"a", "b", "b"}, {"a", "a", "b"}, {"a", "c", "b"}, {"9", "10"}, {"a0", "a-b"}, {"aa", "a"}, {long24, long24[:23]},
	}
	for count := range 20 {
		l = append(l, rising(count))
	}
	for _, s := range oddities() {
		l = append(l, []string{s}, []string{"0", s}, []string{s, "z"}, []string{"0", s, "z"}, []string{s, s})
	}
	return l
}

// ops are those that there are, and some beside them.
func ops() []api.Op {
	return []api.Op{0, 1, 2, 3, 4, 5, 6, 7, -1, -2, -8, 8, 9, 15, 16, 256, 1 << 32, math.MaxInt, math.MinInt}
}

// allTerms are those of all ops, and all values, right and wrong.
func allTerms() []api.Term {
	var l []api.Term
	for _, op := range ops() {
		for _, values := range lists() {
			l = append(l, term(op, values...))
		}
	}
	return l
}

// someTerms are a few that may be, with each op.
func someTerms() []api.Term {
	return []api.Term{
		term(api.ClassIn, "a"), term(api.ClassIn, "a", "b"), term(api.ClassIn, "high", "low"), term(api.ClassNotIn, "a"), term(api.ClassNotIn, "a", "b"), term(api.ClassNotIn, "high", "low"),
		term(api.ClassIs), term(api.ClassNone), term(api.Terminating), term(api.Running), term(api.BestEffort), term(api.NotBest),
	}
}

// objects have all flags, and classes of any kind; one that may not be is asked about, too.
func objects() []api.Object {
	var l []api.Object
	for _, class := range append(oddities(), "a", "b", "c", "0", "10", "9", "a-b", "a0", "aa", "all", "in", "high", "low", long24, long24[:23], "n1000", "n1007", "n1008") {
		for flags := range 4 {
			l = append(l, api.Object{Class: class, Terminating: flags&1 != 0, Best: flags&2 != 0})
		}
	}
	return l
}

// fewObjects have all flags, and no class, one of the values, or another one.
func fewObjects() []api.Object {
	var l []api.Object
	for _, o := range objects() {
		if slices.Contains([]string{"", "a", "b", "high", "low", "0"}, o.Class) {
			l = append(l, o)
		}
	}
	return l
}

// termMayBe says once more, in another way, whether a term may be.
func termMayBe(t api.Term) bool {
	if t.Op != 0 && t.Op != 1 {
		return slices.Contains([]api.Op{2, 3, 4, 5, 6, 7}, t.Op) && len(t.Values) == 0
	}
	for _, v := range t.Values {
		if !asLabel.MatchString(v) {
			return false
		}
	}
	return 1 <= len(t.Values) && len(t.Values) <= 8 && doRise(t.Values)
}

func doRise(l []string) bool {
	return sort.StringsAreSorted(l) && len(slices.Compact(slices.Clone(l))) == len(l)
}

func mayBe(s api.Scope) bool {
	for _, t := range s {
		if !termMayBe(t) {
			return false
		}
	}
	return len(s) <= 8
}

// termHolds says once more, in another way, whether a term may be, and holds of an object.
func termHolds(t api.Term, o api.Object) bool {
	in := false
	for _, v := range t.Values {
		in = in || v == o.Class
	}
	return termMayBe(t) && [8]bool{in, !in, o.Class > "", o.Class == "", o.Terminating, !o.Terminating, o.Best, !o.Best}[t.Op]
}

func matches(s api.Scope, o api.Object) bool {
	for _, t := range s {
		if !termHolds(t, o) {
			return false
		}
	}
	return len(s) <= 8
}

// textOf says once more, in another way, which text a scope has.
func textOf(s api.Scope) string {
	switch {
	case !mayBe(s):
		return ""
	case len(s) == 0:
		return "all"
	}
	text := ""
	for _, t := range s {
		word := map[api.Op]string{0: "in:", 1: "notin:", 2: "class", 3: "noclass", 4: "terminating", 5: "running", 6: "best", 7: "notbest"}[t.Op]
		text += ";" + word + strings.Join(t.Values, ",")
	}
	return text[1:]
}

// isText says once more, in another way, whether it is a scope's text.
func isText(s string) bool {
	parts := strings.Split(s, ";")
	for _, part := range parts {
		found := asTerm.FindStringSubmatch(part)
		if found == nil || !doRise(strings.Split(found[4], ",")) {
			return s == "all"
		}
	}
	return len(parts) <= 8
}

// told holds what Right and Text tell of a scope against what they should; one that may be comes back from its text.
func told(t *testing.T, s api.Scope) {
	t.Helper()
	want := textOf(s)
	if got := scope.Right(s); got != mayBe(s) {
		t.Fatalf("Right(%v): %v", s, got)
	}
	if got := scope.Text(s); got != want {
		t.Fatalf("Text(%v): %q, not %q", s, got, want)
	}
	if !mayBe(s) {
		return
	}
	if x, e := scope.Parse(want); !scope.Same(x, s) || !equal(x, s) || e != api.OK {
		t.Fatalf("Parse(%q): %v %d, not %v", want, x, e, s)
	}
}

// read holds what Parse tells of a text against what it should; one that is a scope's comes back from that.
func read(t *testing.T, s string) {
	t.Helper()
	x, e := scope.Parse(s)
	if !isText(s) {
		if len(x) != 0 || e != api.ErrForm {
			t.Fatalf("Parse(%q): %v %d, not nothing and ErrForm", s, x, e)
		}
		return
	}
	if e != api.OK || !mayBe(x) || !scope.Right(x) || scope.Text(x) != s || textOf(x) != s {
		t.Fatalf("Parse(%q): %v %d", s, x, e)
	}
}

// equal says once more, in another way, whether two have the same terms.
func equal(a, b api.Scope) bool {
	same := len(a) == len(b)
	for i := 0; same && i < len(a); i++ {
		same = a[i].Op == b[i].Op && strconv.Quote(strings.Join(a[i].Values, "\x00")) == strconv.Quote(strings.Join(b[i].Values, "\x00")) && len(a[i].Values) == len(b[i].Values)
	}
	return same
}

// P6.1, Right, Text and Parse: scopes that may be, and their texts, written out.
func TestTexts(t *testing.T) {
	eight := rising(8)
	best := term(api.BestEffort)
	for want, s := range map[string]api.Scope{
		"all":                            nil,
		"in:a":                           terms(term(0, "a")),
		"notin:a":                        terms(term(1, "a")),
		"class":                          terms(term(2)),
		"noclass":                        terms(term(3)),
		"terminating":                    terms(term(4)),
		"running":                        terms(term(5)),
		"best":                           terms(term(6)),
		"notbest":                        terms(term(7)),
		"in:high,low;running":            terms(term(0, "high", "low"), term(5)),
		"running;in:high,low":            terms(term(5), term(0, "high", "low")),
		"in:all":                         terms(term(0, "all")),
		"in:in;notin:notin":              terms(term(0, "in"), term(1, "notin")),
		"notin:10,9,a,a-b,a0,aa":         terms(term(1, "10", "9", "a", "a-b", "a0", "aa")),
		"in:" + long24:                   terms(term(0, long24)),
		"in:" + strings.Join(eight, ","): terms(term(0, eight...)),
		"best;best":                      terms(best, best),
		"class;noclass":                  terms(term(2), term(3)),
		"in:a;in:a;notin:a":              terms(term(0, "a"), term(0, "a"), term(1, "a")),
		"in:a;notin:b;class;noclass;terminating;running;best;notbest": terms(term(0, "a"), term(1, "b"), term(2), term(3), term(4), term(5), term(6), term(7)),
		"best;best;best;best;best;best;best;best":                     terms(best, best, best, best, best, best, best, best),
	} {
		if !scope.Right(s) || scope.Text(s) != want {
			t.Errorf("%v: %v %q, not %q", s, scope.Right(s), scope.Text(s), want)
		}
		if x, e := scope.Parse(want); !equal(x, s) || !scope.Same(x, s) || e != api.OK {
			t.Errorf("%q: %v %d, not %v", want, x, e, s)
		}
		told(t, s)
		read(t, want)
	}
	if scope.Text(api.Scope{}) != "all" || !scope.Right(api.Scope{}) {
		t.Error("a scope without terms, that is not nil")
	}
}

// P6.1, Right, Text and Holds: all ops, with all values; P6.3: those that may be come back.
func TestAllTerms(t *testing.T) {
	right := 0
	for _, x := range allTerms() {
		if termMayBe(x) {
			right++
		}
		told(t, terms(x))
		for _, o := range objects() {
			want := termHolds(x, o)
			if scope.Holds(x, o) != want || scope.Match(terms(x), o) != want {
				t.Fatalf("%v, %+v: %v %v, not %v", x, o, scope.Holds(x, o), scope.Match(terms(x), o), want)
			}
		}
	}
	if right < 30 {
		t.Errorf("%d of the terms may be: too few", right)
	}
}

// P6.1, Holds and Match: each op, written out; of terms that may not be, none holds.
func TestHolds(t *testing.T) {
	high, low, none := api.Object{Class: "high", Best: true}, api.Object{Class: "low", Terminating: true}, api.Object{}
	for _, c := range []struct {
		t               api.Term
		high, low, none bool
	}{
		{term(api.ClassIn, "high"), true, false, false},
		{term(api.ClassIn, "high", "low"), true, true, false},
		{term(api.ClassIn, "hig", "highs"), false, false, false},
		{term(api.ClassNotIn, "high"), false, true, true},
		{term(api.ClassNotIn, "high", "low"), false, false, true},
		{term(api.ClassNotIn, "hig", "highs"), true, true, true},
		{term(api.ClassIs), true, true, false},
		{term(api.ClassNone), false, false, true},
		{term(api.Terminating), false, true, false},
		{term(api.Running), true, false, true},
		{term(api.BestEffort), true, false, false},
		{term(api.NotBest), false, true, true},
		{term(-1), false, false, false},
		{term(8), false, false, false},
		{term(api.ClassIn), false, false, false},
		{term(api.ClassNotIn), false, false, false},
		{term(api.ClassIn, ""), false, false, false},
		{term(api.ClassNotIn, ""), false, false, false},
		{term(api.ClassIn, "", "high", "low"), false, false, false},
		{term(api.ClassIn, "low", "high"), false, false, false},
		{term(api.ClassIn, "high", "high"), false, false, false},
		{term(api.ClassNotIn, "b", "a"), false, false, false},
		{term(api.ClassIn, "High", "high", "low"), false, false, false},
		{term(api.ClassIs, "high"), false, false, false},
		{term(api.ClassNone, "high"), false, false, false},
		{term(api.Terminating, ""), false, false, false},
		{term(api.Running, "a"), false, false, false},
		{term(api.BestEffort, "high"), false, false, false},
		{term(api.NotBest, "a"), false, false, false},
		{term(api.ClassIn, append([]string{"high", "low"}, rising(6)...)...), true, true, false},
		{term(api.ClassIn, append([]string{"high", "low"}, rising(7)...)...), false, false, false},
		{term(api.ClassNotIn, rising(8)...), true, true, true},
		{term(api.ClassNotIn, rising(9)...), false, false, false},
	} {
		for o, want := range map[*api.Object]bool{&high: c.high, &low: c.low, &none: c.none} {
			if scope.Holds(c.t, *o) != want || scope.Match(terms(c.t), *o) != want {
				t.Errorf("%v, %+v: not %v", c.t, *o, want)
			}
		}
	}
	for _, o := range objects() {
		if !scope.Match(nil, o) || !scope.Match(api.Scope{}, o) {
			t.Errorf("%+v: a scope without terms matches all", o)
		}
	}
}

// P6.1, Holds: what else an object has makes no difference, nor whether it may be.
func TestWhatATermLooksAt(t *testing.T) {
	for _, x := range allTerms() {
		for _, o := range fewObjects() {
			other := o
			other.Key, other.Version = api.Key{Kind: "a", Space: "high", Name: "b"}, 7
			other.Charge = []api.Resource{{Name: "a", N: 1}, {Name: "a", N: -1}}
			if scope.Holds(x, o) != scope.Holds(x, other) || scope.Match(terms(x), o) != scope.Match(terms(x), other) {
				t.Errorf("%v, %+v: looks at more", x, o)
			}
		}
	}
}

// P6.1: all scopes of up to three of some terms; P6.2: a scope with a term more matches less; P6.3: they come back.
func TestShortScopes(t *testing.T) {
	some := append(someTerms(), term(8), term(api.ClassIn), term(api.Running, "a"))
	all := []api.Scope{nil}
	for from, length := 0, 0; length < 3; length++ {
		to := len(all)
		for _, s := range all[from:to] {
			for _, x := range some {
				all = append(all, append(slices.Clone(s), x))
			}
		}
		from = to
	}
	for _, s := range all {
		told(t, s)
		for _, o := range fewObjects() {
			got := scope.Match(s, o)
			if got != matches(s, o) {
				t.Fatalf("%v, %+v: %v", s, o, got)
			}
			for i := range s {
				if less := slices.Delete(slices.Clone(s), i, i+1); got && !scope.Match(less, o) {
					t.Fatalf("%v matches %+v, %v does not", s, o, less)
				}
			}
		}
	}
}

// P6.1: 8 terms may be, 9 not, whatever they are; one that may not be is enough, wherever it stands.
func TestHowManyTerms(t *testing.T) {
	some := someTerms()
	for count := range 30 {
		for first := range some {
			var s api.Scope
			for i := range count {
				s = append(s, some[(first+i)%len(some)])
			}
			told(t, s)
			if same := slices.Repeat(terms(some[first]), count); count > 0 {
				told(t, same)
				read(t, strings.Repeat(textOf(same[:1])+";", count-1)+textOf(same[:1]))
				for _, o := range fewObjects() {
					if got := scope.Match(same, o); got != matches(same, o) {
						t.Errorf("%v, %+v: %v", same, o, got)
					}
				}
			}
			for i := range s {
				for _, bad := range []api.Term{term(8), term(-1), term(0), term(1, "a", "a"), term(2, "a")} {
					wrong := slices.Clone(s)
					wrong[i] = bad
					told(t, wrong)
				}
			}
		}
	}
	if s := make(api.Scope, 9); scope.Right(s) || scope.Right(s[:1]) || scope.Text(s) != "" {
		t.Error("empty terms")
	}
	eight := slices.Repeat(terms(term(api.Running)), 8)
	if o := (api.Object{}); !scope.Match(eight, o) || scope.Match(append(eight, term(api.Running)), o) {
		t.Error("8 terms that hold match, 9 do not")
	}
}

// P6.2: of an op and its opposite just one holds, if they may be, and else none.
func TestBothSides(t *testing.T) {
	for _, values := range lists() {
		for op := api.Op(0); op < 8; op += 2 {
			a, b := term(op, values...), term(op+1, values...)
			if termMayBe(a) != termMayBe(b) {
				t.Fatalf("%v, %v: one may be, one not", a, b)
			}
			for _, o := range objects() {
				x, y := scope.Holds(a, o), scope.Holds(b, o)
				if termMayBe(a) && x == y || !termMayBe(a) && (x || y) {
					t.Errorf("%v, %v, %+v: %v %v", a, b, o, x, y)
				}
				if scope.Match(terms(a, b), o) {
					t.Errorf("%v and %v match %+v", a, b, o)
				}
			}
		}
	}
}

// drawn are scopes of any length, most of which may be.
func drawn(count int) []api.Scope {
	r := rand.New(rand.NewSource(6))
	all := append(lists(), []string{"0", "10", "9", "a", "a-b", "a0", "b", "high"}, []string{"a", "b", "c", "d", "e", "f", "high", "low"})
	var right [][]string
	for _, l := range all {
		if termMayBe(term(0, l...)) {
			right = append(right, l)
		}
	}
	var scopes []api.Scope
	for range count {
		s := make(api.Scope, r.Intn(9+r.Intn(10)/9))
		for i := range s {
			s[i].Op = api.Op(r.Intn(8))
			if s[i].Op < 2 {
				s[i].Values = slices.Clone(right[r.Intn(len(right))])
			}
			if r.Intn(40) == 0 {
				s[i] = term(ops()[r.Intn(len(ops()))], all[r.Intn(len(all))]...)
			}
		}
		scopes = append(scopes, s)
	}
	return scopes
}

// P6.1 to P6.3: of scopes that are drawn.
func TestDrawnScopes(t *testing.T) {
	r := rand.New(rand.NewSource(7))
	all, right := objects(), 0
	for _, s := range drawn(20000) {
		if mayBe(s) {
			right++
		}
		told(t, s)
		for range 20 {
			o := all[r.Intn(len(all))]
			got := scope.Match(s, o)
			if got != matches(s, o) {
				t.Fatalf("%v, %+v: %v", s, o, got)
			}
			more := slices.Insert(slices.Clone(s), r.Intn(len(s)+1), someTerms()[r.Intn(len(someTerms()))])
			if scope.Match(more, o) && !got {
				t.Fatalf("%v matches %+v, %v does not", more, o, s)
			}
		}
	}
	if right < 5000 || right > 19000 {
		t.Errorf("%d of the scopes may be: too few, or too many", right)
	}
}

// P6.1, Parse: texts that are none's, written out; with the error there is nothing beside it.
func TestTextsThatAreNone(t *testing.T) {
	wrong := []string{
		"", " ", ";", ";;", ":", ",", "a", "in", "notin", "in:", "notin:", "in:,", "in:a,", "in:,a", "in:a,,b", "in:a;", ";in:a", "in:a;;best", "in:a:b", "in::a", "in:a:", "in :a", "in: a", "in:a ", "in:a, b", "in=a",
		"in:b,a", "in:a,a", "notin:b,a", "in:a,b,a", "in:9,10", "in:a0,a-b", "in:aa,a",
		"in:A", "in:-a", "in:a-", "in:" + long24 + "y", "in:a,é", "in:\xff", "in:a\x00",
		"In:a", "IN:a", "Class", "class ", " class", "class\n", "clas", "classs", "no class", "none", "terminate", "besteffort", "not", "notclass", "norunning",
		"class:", "class:a", "noclass:", "noclass:a", "terminating:", "terminating:a", "running:", "running:a", "best:", "best:a", "notbest:", "notbest:a",
		"all;", ";all", "all;all", "all;best", "best;all", "all:", "all:a", "All", "all ", " all", "al", "alll",
		"class,best", "in:a,best;", "in:a best", "in:a;best;", "class;;best",
		"best;best;best;best;best;best;best;best;best", "best;best;best;best;best;best;best;best;", ";best;best;best;best;best;best;best;best", "best;best;best;best;best;best;best;best;x",
		"best;best;best;best;best;best;best;best;in:a,b", "in:a;in:a;in:a;in:a;in:a;in:a;in:a;in:a;in:a",
		"in:a,b,c,d,e,f,g,h,i", "notin:a,b,c,d,e,f,g,h,i", "in:a,b,c,d,e,f,g,h,", "in:a,b,c,d,e,f,g,h,i,j,k,l", "in:a,b,c,d,e,f,g,h;in:a,b,c,d,e,f,g,h,i",
		"0", "1", "0:a", "in:a|best", "in:a/best", "in\x00:a", "in:a;best\x00",
	}
	for _, s := range wrong {
		if x, e := scope.Parse(s); len(x) != 0 || e != api.ErrForm {
			t.Errorf("%q: %v %d", s, x, e)
		}
		read(t, s)
	}
}

// P6.3: texts one byte off from one that is a scope's: most are none's, and those that are come back.
func TestOneByteOff(t *testing.T) {
	for _, s := range []string{
		"all", "class", "noclass", "terminating", "running", "best", "notbest", "in:a", "notin:b", "in:a,b", "notin:a,c", "in:9,a-b,a0", "in:high,low;running", "best;notbest", "class;in:b,d;best",
		"in:a,b,c,d,e,f,g,h", "in:b,d,f,h,k,m,o", "best;in:c;best;best;in:a;best;best;best", "in:c;best;in:c;best;best;best;best", "in:" + long24, "in:" + long24[:23],
	} {
		read(t, s)
		for i := 0; i <= len(s); i++ {
			for b := range 256 {
				c := string([]byte{byte(b)})
				read(t, s[:i]+c+s[i:])
				if i < len(s) {
					read(t, s[:i]+c+s[i+1:])
				}
			}
			if i < len(s) {
				read(t, s[:i]+s[i+1:])
			}
			if i+1 < len(s) {
				read(t, s[:i]+s[i+1:i+2]+s[i:i+1]+s[i+2:])
			}
		}
	}
}

// P6.3: all texts of some pieces: those that are a scope's are its, and the others none's.
func TestTextsComeBack(t *testing.T) {
	all, last, is := []string{""}, []string{""}, 0
	for range 5 {
		var next []string
		for _, s := range last {
			for _, p := range []string{"all", "in", "not", "no", "class", "best", ":", ",", ";", "a", "b", "-"} {
				next = append(next, s+p)
			}
		}
		all, last = append(all, next...), next
	}
	for _, s := range all {
		if isText(s) {
			is++
		}
		read(t, s)
	}
	if is < 100 {
		t.Errorf("%d of the texts are a scope's: too few", is)
	}
}

// P6.1, Same: two that differ in one thing alone; those that may not be, too.
func TestSame(t *testing.T) {
	all := []api.Scope{
		nil, terms(term(0)), terms(term(1)), terms(term(2)), terms(term(3)), terms(term(-1)), terms(term(8)),
		terms(term(0, "a")), terms(term(1, "a")), terms(term(0, "b")), terms(term(0, "")), terms(term(0, "a", "b")), terms(term(0, "b", "a")), terms(term(0, "a", "a")), terms(term(0, "a,b")), terms(term(0, "ab")),
		terms(term(2), term(2)), terms(term(2), term(3)), terms(term(3), term(2)), terms(term(2), term(3), term(3)), terms(term(2, "a")),
		terms(term(0, "a"), term(0, "b")), terms(term(0, "b"), term(0, "a")), terms(term(0, "a", "b"), term(0)), terms(term(0), term(0, "a", "b")), terms(term(0, "a"), term(1, "b")),
		make(api.Scope, 8), make(api.Scope, 9), slices.Repeat(terms(term(6)), 8), slices.Repeat(terms(term(6)), 9),
	}
	for i, a := range all {
		for j, b := range all {
			if scope.Same(a, b) != (i == j) || equal(a, b) != (i == j) {
				t.Errorf("%v, %v: %v", a, b, scope.Same(a, b))
			}
		}
		other := slices.Clone(a)
		for i := range other {
			other[i].Values = slices.Clone(other[i].Values)
		}
		if !scope.Same(a, other) {
			t.Errorf("%v is the same, elsewhere", a)
		}
	}
	// A list without elements may be nil or not.
	if !scope.Same(nil, api.Scope{}) || !scope.Same(terms(api.Term{Op: 2}), terms(api.Term{Op: 2, Values: []string{}})) {
		t.Error("nil, and nothing")
	}
}

// changed is a scope written all over.
func changed(s api.Scope) {
	for i := range s {
		for j := range s[i].Values {
			s[i].Values[j] = "changed"
		}
		_ = append(s[i].Values, "more", "more", "more", "more")
		s[i].Op = -7
	}
	_ = append(s, term(8), term(8), term(8))
}

// Rules 3 and 4: what is handed in stays as it is, and what lies behind a list is neither read nor written; answers share nothing.
func TestNothingIsShared(t *testing.T) {
	values := []string{"a", "b", "A", "a"}
	whole := terms(term(0, values[:2]...), term(5), term(8), term(0))
	short := whole[:2]
	short[0].Values = values[:2]
	if !scope.Right(short) || scope.Text(short) != "in:a,b;running" || !scope.Same(short, terms(term(0, "a", "b"), term(5))) || !scope.Match(short, api.Object{Class: "a"}) || !scope.Holds(short[0], api.Object{Class: "b"}) {
		t.Error("what lies behind is read")
	}
	if !slices.Equal(values, []string{"a", "b", "A", "a"}) || !equal(whole, terms(term(0, "a", "b"), term(5), term(8), term(0))) {
		t.Errorf("written into: %v %v", values, whole)
	}
	for _, s := range []string{"all", "in:a,b,c;notin:a,b,c", "in:a;in:b;running", "in:a,b,c,d,e,f,g;in:a,b,c,d,e,f,g;notin:a,b,c,d,e,f,g", "best;best;best;best;best;best;best"} {
		x, _ := scope.Parse(s)
		y, _ := scope.Parse(s)
		changed(x)
		if z, _ := scope.Parse(s); scope.Text(y) != s || scope.Text(z) != s {
			t.Errorf("%q: answers share memory", s)
		}
		// Lists of one answer share none either: what comes behind one is not in another one.
		for i := range y {
			was := slices.Clone(y)
			_ = append(y[i].Values, "m", "m", "m", "m", "m", "m", "m", "m")
			y[i].Values = append(y[i].Values, "z")[:len(was[i].Values)]
			if scope.Text(y) != s {
				t.Errorf("%q: lists of one answer share memory", s)
			}
		}
	}
}

// P1 and P2: every call ends without a panic, and tells the same of the same, whatever it was asked between.
func TestCallsEndAndTellTheSame(t *testing.T) {
	type answers struct {
		right, holds, match, same bool
		text, parsed              string
		e                         api.Errno
	}
	ask := func(s api.Scope, text string, o api.Object) answers {
		var first api.Term
		if len(s) > 0 {
			first = s[0]
		}
		x, e := scope.Parse(text)
		return answers{scope.Right(s), scope.Holds(first, o), scope.Match(s, o), scope.Same(s, x), scope.Text(s), scope.Text(x), e}
	}
	long := strings.Repeat("a", 1<<20)
	scopes := append(drawn(300), nil, make(api.Scope, 1<<20), terms(term(0, make([]string, 1<<20)...)), terms(term(0, long)), terms(term(0, rising(1<<16)...)), terms(term(math.MinInt), term(math.MaxInt)))
	texts := []string{"", "all", "in:a", "in:a,b;best", long, "in:" + long, strings.Repeat("best;", 1<<20), "in:" + strings.Repeat("a,", 1<<20), strings.Repeat(";", 1<<20), strings.Repeat(":", 1<<20), "in" + strings.Repeat(":,;", 1<<20), "\xff\xfe", "in:\x00;\x00"}
	all := objects()
	all = append(all, api.Object{Class: long})
	first := make([]answers, len(scopes))
	for i, s := range scopes {
		first[i] = ask(s, texts[i%len(texts)], all[i%len(all)])
	}
	for j := range scopes {
		i := len(scopes) - 1 - j
		if ask(scopes[i], texts[i%len(texts)], all[i%len(all)]) != first[i] {
			t.Errorf("%d: told otherwise", i)
		}
	}
}
