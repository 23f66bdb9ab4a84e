package ledger_test

import (
	"encoding/json"
	"os"
	"os/exec"
	"path/filepath"
	"strings"
	"testing"

	"scutage/api"
	"scutage/wide"
)

// narrowAdd stands in wide.Add's place: sums end below 2^65, so that five objects lead over the edge. At the true one, some 2^64 of them would have to come, which no test can wait for.
const narrowAdd = `
func Add(a, b api.Wide) (api.Wide, bool) {
	sum, ok := addOfAll(a, b)
	if !ok || sum.Hi > 1 {
		return api.Wide{}, false
	}
	return sum, true
}
`

// inside tells a run with narrow numbers that it is one.
const inside = "LEDGER_WITH_NARROW_NUMBERS"

// P15.1, Apply and Recount: ErrFull, where there is no such number, and nothing is changed: tested by a run of this test alone, with narrow numbers.
func TestNoSuchNumber(t *testing.T) {
	_, wideEnough := wide.Add(api.Wide{Hi: 1, Lo: 1<<64 - 1}, wide.Of(1))
	switch {
	case !wideEnough:
		t.Run("apply", applyIsFull)
		t.Run("recount", recountIsFull)
	case os.Getenv(inside) != "":
		t.Skip("numbers are as wide as ever")
	default:
		runWithNarrowNumbers(t)
	}
}

// runWithNarrowNumbers lays another file in the place of the one that wide.Add stands in. Where it stands elsewhere, or nothing can be built, there is nothing to run.
func runWithNarrowNumbers(t *testing.T) {
	path, err := filepath.Abs(filepath.Join("..", "wide", "wide.go"))
	if err != nil {
		t.Skip(err)
	}
	source, err := os.ReadFile(path)
	if err != nil || !strings.Contains(string(source), "func Add(") {
		t.Skip("wide.Add stands elsewhere")
	}
	dir := t.TempDir()
	file, overlay := filepath.Join(dir, "wide.go"), filepath.Join(dir, "overlay.json")
	places, err := json.Marshal(map[string]map[string]string{"Replace": {path: file}})
	if err != nil {
		t.Fatal(err)
	}
	narrow := strings.Replace(string(source), "func Add(", "func addOfAll(", 1) + narrowAdd
	for name, text := range map[string]string{file: narrow, overlay: string(places)} {
		if err := os.WriteFile(name, []byte(text), 0o600); err != nil {
			t.Fatal(err)
		}
	}
	run := exec.Command("go", "test", "-count=1", "-vet=off", "-v", "-overlay", overlay, "-run", "^TestNoSuchNumber$", ".")
	run.Env = append(os.Environ(), inside+"=1")
	told, err := run.CombinedOutput()
	switch text := string(told); {
	case strings.Contains(text, "--- FAIL") || strings.Contains(text, "panic:"):
		t.Errorf("with narrow numbers: %s", text)
	case err != nil || !strings.Contains(text, "--- PASS: TestNoSuchNumber/"):
		t.Skipf("no run with narrow numbers: %v %s", err, text)
	}
}

// greats are so many objects of a space, of the greatest number each, and one of as much.
func greats(space string, count int, rest string) []api.Object {
	l := []api.Object{pod(space, "rest", "*", "cpu="+rest)}
	for i := range count {
		l = append(l, pod(space, "great"+string(rune('a'+i)), "*", most))
	}
	return l
}

// narrowMost is the greatest narrow number, of four that are great, and 3.
const narrowMost = "cpu=36893488147419103231,objects=5"

// allCome are deltas of all of these.
func allCome(objects []api.Object) []api.Delta {
	var d []api.Delta
	for _, o := range objects {
		d = append(d, come(o))
	}
	return d
}

// applyIsFull: an own sum is no number any more, of a node, or of a space that is none; what comes with it neither counts nor touches.
func applyIsFull(t *testing.T) {
	for _, space := range []string{"root", "a", "b", "z"} {
		b := planted(t, "class all", "a/root b/a c/root")
		b.does(applies(allCome(greats(space, 4, "3"))...), steps(9))
		if got := told(b.l.Own(space, 1)); got != narrowMost {
			t.Errorf("%s: %s", space, got)
		}
		one, beside := come(pod(space, "one", "", "cpu=1")), come(pod("c", "x", "high", ""))
		b.refused(api.ErrFull, applies(one), applies(beside, one), applies(one, beside))
		for _, wrong := range wrongDeltas() {
			b.refused(api.ErrArg, applies(one, wrong), applies(wrong, one))
		}
		b.does(applies(beside), applies(goes(pod(space, "rest", "*", "cpu=3")), one), steps(1))
		b.refused(api.ErrFull, applies(come(pod(space, "two", "", "cpu=3")), beside))
	}
}

// recountIsFull: own sums, or all of a node, are no number any more.
func recountIsFull(t *testing.T) {
	b := planted(t, "class all", "a/root b/a c/root")
	b.does(applies(come(pod("b", "x", "high", most)), come(pod("b", "y", "", most)), come(pod("z", "y", "high", "cpu=7"))), steps(9), applies(goes(pod("b", "y", "", most))), steps(1))
	for _, objects := range [][]api.Object{greats("a", 4, "4"), greats("z", 4, "4"), append(greats("b", 2, "2"), greats("c", 2, "2")...), append(greats("a", 3, "4"), greats("b", 1, "0")...)} {
		b.refused(api.ErrFull, recounts(objects...), recounts(append(objects[1:], objects[0])...))
		for _, wrong := range wrongObjects() {
			b.refused(api.ErrArg, recounts(append(objects[:len(objects):len(objects)], wrong)...), recounts(append([]api.Object{wrong}, objects...)...))
		}
	}
	b.dirty("a root")
	b.does(recounts(greats("a", 4, "3")...))
	b.dirty("")
	b.does(recounts(append(greats("b", 2, "2"), greats("c", 2, "1")...)...))
}
