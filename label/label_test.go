package label_test

import (
	"regexp"
	"sort"
	"strings"
	"testing"

	"scutage/api"
	"scutage/label"
)

// asLabel says once more, in another way, what a label is.
var asLabel = regexp.MustCompile(`\A[a-z0-9]([a-z0-9-]{0,22}[a-z0-9])?\z`)

// asText likewise says what a key's text is.
var asText = regexp.MustCompile(`\A[a-z0-9]([a-z0-9-]{0,22}[a-z0-9])?(/[a-z0-9]([a-z0-9-]{0,22}[a-z0-9])?){2}\z`)

const long24 = "abcdefghijklmnopqrstuvwx"

func key(space, kind, name string) api.Key {
	return api.Key{Space: space, Kind: kind, Name: name}
}

// texts are all texts of at most n of the pieces.
func texts(n int, pieces ...string) []string {
	all, last := []string{""}, []string{""}
	for range n {
		var next []string
		for _, s := range last {
			for _, p := range pieces {
				next = append(next, s+p)
			}
		}
		all, last = append(all, next...), next
	}
	return all
}

// oddities are texts that are no labels, each for a reason of its own.
func oddities() []string {
	return []string{
		"", "-", "--", "-a", "a-", "-a-", long24 + "y", long24[:23] + "-", "-" + long24[:23],
		strings.Repeat("-", 24), strings.Repeat("a", 1000), "A", "aB", "a b", " a", "a ", "a\n", "\na",
		"a\x00", "\x00", "a/b", "/", "a_b", "a.b", "a:b", "`", "{", "é", "š", "aéb", "ａ", "٣",
		"\xff", "a\xff", "a\xc3", "\xc1\xa1", "\xe0\x81\xa1", "\ufffd", "a\ufffdb", "\U0001f600",
	}
}

// P1.1, Right: labels as they come, and the edges.
func TestRightTells(t *testing.T) {
	for _, s := range []string{"a", "z", "0", "9", "a-b", "a--b", "0-9", "team-a", "root", "objects", long24, strings.Repeat("9", 24), "a" + strings.Repeat("-", 22) + "z"} {
		if !label.Right(s) {
			t.Errorf("%q is a label", s)
		}
	}
	for _, s := range oddities() {
		if label.Right(s) {
			t.Errorf("%q is no label", s)
		}
	}
}

// P1.1, Right: each length about the limit, in bytes, not in runes.
func TestRightByLength(t *testing.T) {
	for n := range 60 {
		want := 1 <= n && n <= 24
		if got := label.Right(strings.Repeat("a", n)); got != want {
			t.Errorf("%d bytes: %v", n, got)
		}
	}
}

// P1.1, Right: each byte, alone, first, last, and between.
func TestRightByByte(t *testing.T) {
	for b := range 256 {
		c := string([]byte{byte(b)})
		for _, s := range []string{c, c + "a", "a" + c, "a" + c + "a"} {
			if got := label.Right(s); got != asLabel.MatchString(s) {
				t.Errorf("%q: %v", s, got)
			}
		}
	}
}

// P1.1, Right: each rune that has more than one byte; none is the letter that its last bits are.
func TestRightByRune(t *testing.T) {
	for r := rune(0x80); r <= 0x10ffff; r++ {
		if label.Right(string(r)) {
			t.Errorf("%q is no label", r)
		}
	}
}

// P1.1, Right: all short texts of bytes at the edges of those that are allowed.
func TestRightOfShortTexts(t *testing.T) {
	for _, s := range texts(4, "a", "z", "0", "9", "-", "`", "{", "/", ":", ",", ".", "A", "\xff") {
		if got := label.Right(s); got != asLabel.MatchString(s) {
			t.Errorf("%q: %v", s, got)
		}
	}
}

// P1.1, Key and Text: of keys that may be.
func TestKeysThatMayBe(t *testing.T) {
	for want, k := range map[string]api.Key{
		"a/b/c":                              key("a", "b", "c"),
		"team-a/pod/web-1":                   key("team-a", "pod", "web-1"),
		"0/0/0":                              key("0", "0", "0"),
		long24 + "/" + long24 + "/" + long24: key(long24, long24, long24),
	} {
		if !label.Key(k) {
			t.Errorf("%v may be", k)
		}
		if got := label.Text(k); got != want {
			t.Errorf("%v: %q", k, got)
		}
	}
}

// P1.1, Key and Text: one part alone that is no label is enough.
func TestKeysThatMayNotBe(t *testing.T) {
	for _, s := range oddities() {
		for _, k := range []api.Key{key(s, "b", "c"), key("a", s, "c"), key("a", "b", s), key(s, s, s)} {
			if label.Key(k) {
				t.Errorf("%v may not be", k)
			}
			if got := label.Text(k); got != "" {
				t.Errorf("%v: %q", k, got)
			}
		}
	}
}

// P1.1, Parse: the key, and with an error nothing beside it.
func TestParseTells(t *testing.T) {
	for s, want := range map[string]api.Key{
		"team-a/pod/web-1":                   key("team-a", "pod", "web-1"),
		"a/b/c":                              key("a", "b", "c"),
		long24 + "/" + long24 + "/" + long24: key(long24, long24, long24),
	} {
		if k, e := label.Parse(s); k != want || e != api.OK {
			t.Errorf("%q: %v %d", s, k, e)
		}
	}
	wrong := []string{"", "/", "//", "///", "a", "a/b", "a/b/", "/a/b", "a//b", "a/b/c/", "/a/b/c", "a/b/c/d", "a//b/c", "a/b//c", "a/b/c ", " a/b/c", "a/b/c\n", "a /b/c", "a\\b\\c", "a-/b/c", "a/-b/c", "a/b/c-"}
	for _, s := range oddities() {
		wrong = append(wrong, s, s+"/b/c", "a/"+s+"/c", "a/b/"+s)
	}
	for _, s := range wrong {
		if k, e := label.Parse(s); k != (api.Key{}) || e != api.ErrForm {
			t.Errorf("%q: %v %d", s, k, e)
		}
	}
}

// P1.2: a key that may be is that of its text.
func TestKeysComeBack(t *testing.T) {
	l := append(texts(2, "a", "z", "0", "-", "/", "A"), long24, long24+"y")
	for _, space := range l {
		for _, kind := range l {
			for _, name := range l {
				k := key(space, kind, name)
				if !label.Key(k) {
					continue
				}
				if x, e := label.Parse(label.Text(k)); x != k || e != api.OK {
					t.Errorf("%v: %v %d", k, x, e)
				}
			}
		}
	}
}

// P1.2: a text that is a key's is its; one that is none's has no key.
func TestTextsComeBack(t *testing.T) {
	for _, s := range texts(7, "a", "0", "-", "/", "A") {
		k, e := label.Parse(s)
		if is := asText.MatchString(s); is != (e == api.OK) {
			t.Errorf("%q: %v %d", s, k, e)
		}
		switch e {
		case api.OK:
			if !label.Key(k) || label.Text(k) != s {
				t.Errorf("%q: %v", s, k)
			}
		case api.ErrForm:
			if k != (api.Key{}) {
				t.Errorf("%q: %v", s, k)
			}
		default:
			t.Errorf("%q: %d", s, e)
		}
	}
}

// P1.1, Less: by texts, where going by parts, by lengths or by runes would tell otherwise.
func TestLessTells(t *testing.T) {
	for _, c := range []struct{ a, b api.Key }{
		{key("a", "a", "a"), key("a", "a", "b")},
		{key("a", "a", "z"), key("a", "b", "a")},
		{key("a", "z", "a"), key("b", "a", "a")},
		{key("a", "z", "z"), key("b", "a", "a")},
		{key("a-b", "a", "a"), key("a", "a", "a")},
		{key("a", "b-c", "a"), key("a", "b", "a")},
		{key("a", "b", "c"), key("a", "b", "c-d")},
		{key("a", "z", "z"), key("a0", "a", "a")},
		{key("a", "z", "z"), key("aa", "a", "a")},
		{key("a", "b", "c"), key("a", "b", "cc")},
		{key("10", "a", "a"), key("9", "a", "a")},
		{key("9", "a", "a"), key("a", "a", "a")},
		{key("a", "b", "c"), key(long24, "a", "a")},
	} {
		if !label.Less(c.a, c.b) || label.Less(c.b, c.a) {
			t.Errorf("%v is ahead of %v", c.a, c.b)
		}
	}
}

// P1.1, Less: keys that may not be stand where their texts would.
func TestLessOfKeysThatMayNotBe(t *testing.T) {
	for _, c := range []struct{ a, b api.Key }{
		{api.Key{}, key("a", "b", "c")},
		{api.Key{}, key("", "", "a")},
		{key("", "z", "z"), key("a", "a", "a")},
		{key("-", "", ""), api.Key{}},
		{key("a-", "", ""), key("a", "", "")},
		{key("A", "z", "z"), key("a", "a", "a")},
		{key("a", "b", "c"), key("é", "b", "c")},
		{key("\U0001f600", "b", "c"), key("\xff", "b", "c")},
		{key("\uffff", "b", "c"), key("\U00010000", "b", "c")},
		{key("\x00", "b", "c"), key("", "b", "c")},
		{key("a/a", "z", "z"), key("a", "b", "c")},
		{key(long24+"x", "b", "c"), key(long24+"y", "b", "c")},
	} {
		if !label.Less(c.a, c.b) || label.Less(c.b, c.a) {
			t.Errorf("%q is ahead of %q", c.a, c.b)
		}
	}
	if a, b := key("a/b", "c", "d"), key("a", "b/c", "d"); label.Less(a, b) || label.Less(b, a) {
		t.Error("keys that would have one text: neither is ahead")
	}
}

// mixed are keys, some that may be, and some that may not.
func mixed() []api.Key {
	var l []api.Key
	for _, space := range []string{"", "a", "a-", "a-b", "a0", "a/b", "\xff"} {
		for _, kind := range []string{"", "a", "b-c", "é"} {
			for _, name := range []string{"", "a", "z", "a/a"} {
				l = append(l, key(space, kind, name))
			}
		}
	}
	return l
}

// P1.3: none is ahead of itself, ahead of what is ahead is ahead, and of two that may be just one is ahead.
func TestOneOrder(t *testing.T) {
	l := mixed()
	for _, a := range l {
		if label.Less(a, a) {
			t.Errorf("%q is ahead of itself", a)
		}
		for _, b := range l {
			if a != b && label.Key(a) && label.Key(b) && label.Less(a, b) == label.Less(b, a) {
				t.Errorf("%q and %q: both, or none", a, b)
			}
			for _, c := range l {
				if label.Less(a, b) && label.Less(b, c) && !label.Less(a, c) {
					t.Errorf("%q, %q, %q", a, b, c)
				}
			}
		}
	}
}

// P1.3: sorted keys have sorted texts.
func TestOrderIsThatOfTexts(t *testing.T) {
	var keys []api.Key
	var want []string
	for _, s := range texts(7, "a", "b", "0", "-", "/") {
		if k, e := label.Parse(s); e == api.OK {
			keys, want = append(keys, k), append(want, s)
		}
	}
	if len(want) == 0 {
		t.Fatal("no keys")
	}
	sort.Strings(want)
	sort.Slice(keys, func(i, j int) bool { return label.Less(keys[j], keys[i]) })
	sort.Slice(keys, func(i, j int) bool { return label.Less(keys[i], keys[j]) })
	for i, k := range keys {
		if label.Text(k) != want[i] {
			t.Fatalf("%d: %q, not %q", i, label.Text(k), want[i])
		}
	}
}

// P1 and P2: every call ends without a panic, and tells the same of the same, whatever it was asked between.
func TestCallsEndAndTellTheSame(t *testing.T) {
	type answers struct {
		right, key, less, more bool
		text                   string
		parsed                 api.Key
		errno                  api.Errno
	}
	ask := func(s string) answers {
		k := key(s, "b", s)
		parsed, errno := label.Parse(s)
		return answers{label.Right(s), label.Key(k), label.Less(k, api.Key{}), label.Less(api.Key{}, k), label.Text(k), parsed, errno}
	}
	l := append(oddities(), "a", long24, "a/b/c", strings.Repeat("/", 100000), strings.Repeat("a/", 100000))
	first := map[string]answers{}
	for _, s := range l {
		first[s] = ask(s)
	}
	for i := range l {
		s := l[len(l)-1-i]
		if ask(s) != first[s] {
			t.Errorf("%.40q: told otherwise", s)
		}
	}
}
