package audit_test

import (
	"encoding/json"
	"os"
	"os/exec"
	"path/filepath"
	"strings"
	"testing"

	"scutage/api"
	"scutage/tree"
	"scutage/wide"
)

// narrowAdd stands in wide.Add's place: sums end below 2^65, so that five objects lead over the edge. At the true one, some 2^64 of them would have to be counted, which no test can wait for.
const narrowAdd = `
func Add(a, b api.Wide) (api.Wide, bool) {
	sum, ok := addOfAll(a, b)
	if !ok || sum.Hi > 1 {
		return api.Wide{}, false
	}
	return sum, true
}
`

// inside tells a run with narrow numbers that it is one.
const inside = "AUDIT_WITH_NARROW_NUMBERS"

// P14.1: ErrFull, where there is no such number: tested by a run of this test alone, with narrow numbers.
func TestNoSuchNumber(t *testing.T) {
	_, wideEnough := wide.Add(api.Wide{Hi: 1, Lo: 1<<64 - 1}, wide.Of(1))
	switch {
	case !wideEnough:
		t.Run("own", ownIsNone)
		t.Run("all", allIsNone)
		t.Run("arg", argAheadOfFull)
	case os.Getenv(inside) != "":
		t.Skip("numbers are as wide as ever")
	default:
		runWithNarrowNumbers(t)
	}
}

// runWithNarrowNumbers lays another file in the place of the one that wide.Add stands in. Where it stands elsewhere, or nothing can be built, there is nothing to run.
func runWithNarrowNumbers(t *testing.T) {
	path, err := filepath.Abs(filepath.Join("..", "wide", "wide.go"))
	if err != nil {
		t.Skip(err)
	}
	source, err := os.ReadFile(path)
	if err != nil || !strings.Contains(string(source), "func Add(") {
		t.Skip("wide.Add stands elsewhere")
	}
	dir := t.TempDir()
	file, overlay := filepath.Join(dir, "wide.go"), filepath.Join(dir, "overlay.json")
	places, err := json.Marshal(map[string]map[string]string{"Replace": {path: file}})
	if err != nil {
		t.Fatal(err)
	}
	narrow := strings.Replace(string(source), "func Add(", "func addOfAll(", 1) + narrowAdd
	for name, text := range map[string]string{file: narrow, overlay: string(places)} {
		if err := os.WriteFile(name, []byte(text), 0o600); err != nil {
			t.Fatal(err)
		}
	}
	run := exec.Command("go", "test", "-count=1", "-vet=off", "-v", "-overlay", overlay, "-run", "^TestNoSuchNumber$", ".")
	run.Env = append(os.Environ(), inside+"=1")
	told, err := run.CombinedOutput()
	switch text := string(told); {
	case strings.Contains(text, "--- FAIL") || strings.Contains(text, "panic:"):
		t.Errorf("with narrow numbers: %s", text)
	case err != nil || !strings.Contains(text, "--- PASS: TestNoSuchNumber/"):
		t.Skipf("no run with narrow numbers: %v %s", err, text)
	}
}

// greats are so many objects of a space, of the greatest number each, and one of as much.
func greats(space string, count int, rest string) []api.Object {
	l := []api.Object{pod(space, "rest", "*", "cpu="+rest)}
	for i := range count {
		l = append(l, pod(space, "great"+string(rune('a'+i)), "*", most))
	}
	return l
}

// narrowMost is the greatest narrow number, of four that are great, and 3; narrowThree is of three of them.
const (
	narrowMost  = "cpu=36893488147419103231,objects=5"
	narrowThree = "cpu=27670116110564327421,objects=4"
)

// ownIsNone: an own sum is no number any more, of a node, or of a space that is none, with any of the scopes.
func ownIsNone(t *testing.T) {
	x := treeOf(t, "a/root", "b/a")
	for _, space := range []string{"root", "a", "b", "z"} {
		for _, texts := range [][]string{{"all"}, {"class", "all"}, {"all", "notbest"}, {"noclass", "best;running", "all"}} {
			scopes := scopesOf(t, texts...)
			l := append(greats(space, 4, "4"), pod("b", "x", "", ""))
			refuses(t, api.ErrFull, scopes, l, x)
			refuses(t, api.ErrFull, scopes, append(l[4:], l[:4]...), x)
			f, _ := counted(t, x, texts, greats(space, 4, "3")...)
			if i := len(texts) - 1; texts[i] == "all" && told(f.Own(space, i)) != narrowMost {
				t.Errorf("%s: %s", space, told(f.Own(space, i)))
			}
		}
		counted(t, x, nil, greats(space, 4, "4")...)
		counted(t, x, []string{"class", "notbest", "terminating"}, greats(space, 4, "4")...)
	}
}

// allIsNone: all own sums are numbers, and all of a node, of those between and the root, or of the root alone, is none any more.
func allIsNone(t *testing.T) {
	chain, flat := treeOf(t, "a/root", "b/a", "c/b"), treeOf(t, "a/root", "b/root", "c/root")
	for _, x := range []*tree.Tree{chain, flat} {
		for _, pair := range [][2]string{{"c", "root"}, {"a", "c"}, {"b", "a"}, {"root", "a"}, {"b", "c"}} {
			upper, lower := greats(pair[0], 3, "3"), greats(pair[1], 1, "0")
			just := append(upper, lower...)
			f, _ := counted(t, x, []string{"best", "class"}, just...)
			if got := told(f.All("root", 0)); got != strings.Replace(narrowMost, "=5", "=6", 1) {
				t.Errorf("%s: %s", pair, got)
			}
			none := append(greats(pair[0], 3, "3"), greats(pair[1], 1, "1")...)
			for _, texts := range [][]string{{"all"}, {"class", "all"}, {"best", "class"}, {"in:high", "running", "class"}} {
				refuses(t, api.ErrFull, scopesOf(t, texts...), none, x)
			}
			counted(t, x, []string{"class", "notbest"}, none...)
		}
		f, _ := counted(t, x, []string{"all"}, append(greats("c", 3, "0"), greats("z", 4, "3")...)...)
		tells(t, f, "root", 0, "", narrowThree, true)
		tells(t, f, "z", 0, narrowMost, "", false)
	}
	three := append(append(greats("a", 1, "1"), greats("b", 1, "1")...), greats("c", 2, "1")...)
	counted(t, flat, []string{"all"}, three...)
	refuses(t, api.ErrFull, []api.Scope{nil}, append(three, pod("root", "x", "", "cpu=1")), flat)
	refuses(t, api.ErrFull, []api.Scope{nil}, append(three, pod("c", "x", "", "cpu=1")), chain)
}

// argAheadOfFull: what may not be is told ahead of what is no number any more.
func argAheadOfFull(t *testing.T) {
	x, all := treeOf(t, "a/root", "b/a"), []api.Scope{nil}
	for _, l := range [][]api.Object{greats("a", 5, "0"), append(greats("a", 3, "0"), greats("b", 3, "0")...)} {
		refuses(t, api.ErrFull, all, l, x)
		refuses(t, api.ErrArg, all, l, nil)
		refuses(t, api.ErrArg, make([]api.Scope, 9), l, x)
		for _, wrong := range wrongScopes() {
			refuses(t, api.ErrArg, append(wrong, nil), l, x)
		}
		for _, wrong := range wrongObjects() {
			refuses(t, api.ErrArg, all, append(l[:len(l):len(l)], wrong), x)
			refuses(t, api.ErrArg, all, append([]api.Object{wrong}, l...), x)
		}
	}
}
