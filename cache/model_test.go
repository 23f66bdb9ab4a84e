package cache_test

import (
	"maps"
	"slices"
	"strconv"
	"strings"
	"testing"

	"scutage/api"
	"scutage/cache"
)

// model says once more, by texts and without a cache, what a cache has to tell.
type model struct {
	objects map[string]api.Object
	graves  map[string]int64
	floor   int64
}

func newModel() *model {
	return &model{objects: map[string]api.Object{}, graves: map[string]int64{}}
}

func (m *model) copied() *model {
	return &model{maps.Clone(m.objects), maps.Clone(m.graves), m.floor}
}

// text is all that the model has, as a text.
func (m *model) text() string {
	s := "floor " + strconv.FormatInt(m.floor, 10) + "\n"
	for _, k := range slices.Sorted(maps.Keys(m.objects)) {
		s += whole(m.objects[k]) + "\n"
	}
	for _, k := range slices.Sorted(maps.Keys(m.graves)) {
		s += "grave " + k + " " + strconv.FormatInt(m.graves[k], 10) + "\n"
	}
	return s
}

func (m *model) known(text string) int64 {
	return slices.Max([]int64{m.floor, m.objects[text].Version, m.graves[text]})
}

// apply is what the chapter says of an event that may be: the state behind it, or why it isn't applied.
func (m *model) apply(e api.Event) (*model, api.Errno) {
	next := m.copied()
	text := textOf(e.Object.Key)
	stale := true
	switch e.Kind {
	case api.Put:
		if stale = e.Object.Version <= m.known(text); !stale {
			next.objects[text] = e.Object
			delete(next.graves, text)
		}
	case api.Delete:
		if stale = e.Object.Version <= m.known(text); !stale {
			delete(next.objects, text)
			next.graves[text] = e.Object.Version
		}
	case api.Relist:
		if stale = e.Version <= m.floor; !stale {
			m.relist(next, e)
		}
	case api.Bookmark:
		if stale = e.Version <= m.floor; !stale {
			next.floor = e.Version
		}
	}
	if stale {
		return m, api.ErrStale
	}
	if len(next.objects) > 1000 {
		return m, api.ErrFull
	}
	maps.DeleteFunc(next.graves, func(_ string, at int64) bool { return at <= next.floor })
	return next, api.OK
}

func (m *model) relist(next *model, e api.Event) {
	maps.DeleteFunc(next.objects, func(text string, o api.Object) bool {
		listed := slices.ContainsFunc(e.Objects, func(l api.Object) bool { return textOf(l.Key) == text })
		return !listed && o.Version <= e.Version
	})
	for _, o := range e.Objects {
		text := textOf(o.Key)
		old, is := m.objects[text]
		if o.Version > m.known(text) || is && old.Version == o.Version {
			next.objects[text] = o
		}
	}
	next.floor = e.Version
}

// changed are the deltas that lead from one model to another one, as texts.
func changed(from, to *model) string {
	var s string
	all := maps.Clone(from.objects)
	maps.Copy(all, to.objects)
	for _, k := range slices.Sorted(maps.Keys(all)) {
		old, had := from.objects[k]
		is, has := to.objects[k]
		if had != has || whole(old) != whole(is) {
			s += deltaText(api.Delta{Key: all[k].Key, Had: had, Has: has, Old: old, New: is})
		}
	}
	return s
}

func deltaText(d api.Delta) string {
	return textOf(d.Key) + " " + strconv.FormatBool(d.Had) + " " + strconv.FormatBool(d.Has) + "\n\t" + whole(d.Old) + "\n\t" + whole(d.New) + "\n"
}

func deltaTexts(l []api.Delta) string {
	var s strings.Builder
	for _, d := range l {
		s.WriteString(deltaText(d))
	}
	return s.String()
}

// look is all that a cache has, as a text like a model's; it holds what Get and Known tell against what the lists do.
func look(t *testing.T, c *cache.Cache) string {
	t.Helper()
	s := "floor " + strconv.FormatInt(c.Floor(), 10) + "\n"
	for _, o := range c.Objects() {
		s += whole(o) + "\n"
		if got, is := c.Get(o.Key); !is || whole(got) != whole(o) {
			t.Fatalf("Get %s: %s %v", textOf(o.Key), whole(got), is)
		}
	}
	for _, k := range c.Graves() {
		s += "grave " + textOf(k) + " " + strconv.FormatInt(c.Known(k), 10) + "\n"
	}
	return s
}

// holds tells of all that a cache tells whether it is what the model has; keys are those that are asked for beside.
func holds(t *testing.T, c *cache.Cache, m *model, keys []api.Key) {
	t.Helper()
	if got, want := look(t, c), m.text(); got != want {
		t.Fatalf("it has\n%snot\n%s", got, want)
	}
	for _, k := range keys {
		o, is := c.Get(k)
		want, wantIs := m.objects[textOf(k)]
		if is != wantIs || whole(o) != whole(want) {
			t.Fatalf("Get %s: %s %v, not %s %v", textOf(k), whole(o), is, whole(want), wantIs)
		}
		if n := c.Known(k); n != m.known(textOf(k)) {
			t.Fatalf("Known %s: %d, not %d", textOf(k), n, m.known(textOf(k)))
		}
	}
}

// step applies an event to both, and holds them against each other.
func step(t *testing.T, c *cache.Cache, m *model, e api.Event, keys []api.Key) *model {
	t.Helper()
	next, want := m.apply(e)
	d, err := c.Apply(e)
	if err != want || deltaTexts(d) != changed(m, next) {
		t.Fatalf("behind\n%s%s: %d\n%snot %d\n%s", m.text(), wholeEvent(e), err, deltaTexts(d), want, changed(m, next))
	}
	holds(t, c, next, keys)
	return next
}
