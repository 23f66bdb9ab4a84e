package store_test

import (
	"cmp"
	"fmt"
	"slices"
	"testing"

	"scutage/api"
	"scutage/store"
)

// model says once more, without a map, what a store has to tell. The objects stand by their keys' texts.
type model struct {
	objects []api.Object
	log     []api.Event
}

// find is where a key's object stands, or would stand, and whether it does.
func (m *model) find(k api.Key) (int, bool) {
	return slices.BinarySearchFunc(m.objects, textOf(k), func(o api.Object, text string) int { return cmp.Compare(textOf(o.Key), text) })
}

func (m *model) next() int64 { return int64(len(m.log)) + 1 }

// put is what the chapter says of an object; may tells whether it may be, with 1 as its version.
func (m *model) put(o api.Object, may bool) (int64, api.Errno) {
	if !may {
		return 0, api.ErrArg
	}
	i, is := m.find(o.Key)
	if !is && len(m.objects) == 1000 {
		return 0, api.ErrFull
	}
	o.Version, o.Charge = m.next(), slices.Clone(o.Charge)
	if is {
		m.objects[i] = o
	} else {
		m.objects = slices.Insert(m.objects, i, o)
	}
	m.log = append(m.log, api.Event{Kind: api.Put, Object: o})
	return o.Version, api.OK
}

// gone is what the chapter says of a key that goes; may tells whether it may be.
func (m *model) gone(k api.Key, may bool) (int64, api.Errno) {
	if !may {
		return 0, api.ErrArg
	}
	i, is := m.find(k)
	if !is {
		return 0, api.ErrNone
	}
	o := api.Object{Key: k, Version: m.next()}
	m.objects = slices.Delete(m.objects, i, i+1)
	m.log = append(m.log, api.Event{Kind: api.Delete, Object: o})
	return o.Version, api.OK
}

// version is that of the last write.
func (m *model) version() int64 { return m.next() - 1 }

// write is one that is tried: a Put, or a Delete of the object's key; may tells whether what it takes may be.
type write struct {
	put, may bool
	o        api.Object
}

// try tries a write.
func try(s *store.Store, w write) (int64, api.Errno) {
	if w.put {
		return s.Put(w.o)
	}
	return s.Delete(w.o.Key)
}

// try is what the chapter says of a write.
func (m *model) try(w write) (int64, api.Errno) {
	if w.put {
		return m.put(w.o, w.may)
	}
	return m.gone(w.o.Key, w.may)
}

// do does a write to both, and holds what they answer against each other.
func do(t *testing.T, s *store.Store, m *model, w write) {
	t.Helper()
	got, err := try(s, w)
	want, wantErr := m.try(w)
	if got != want || err != wantErr {
		t.Fatalf("%+v: %d %d, not %d %d", w, got, err, want, wantErr)
	}
}

// textOf says once more which text a key has, or would have.
func textOf(k api.Key) string { return k.Space + "/" + k.Kind + "/" + k.Name }

// whole is all that is in something, as one text, but whether a list without elements is nil.
func whole(x any) string { return fmt.Sprintf("%+v", x) }

// holds tells of all that a store tells whether it is what the model has; keys are those that are asked for beside.
func holds(t *testing.T, s *store.Store, m *model, keys ...api.Key) {
	t.Helper()
	if s.Version() != m.version() {
		t.Fatalf("version %d, not %d", s.Version(), m.version())
	}
	if got, want := whole(s.Log()), whole(m.log); got != want {
		t.Fatalf("the log is\n%s, not\n%s", got, want)
	}
	snapshot := api.Event{Kind: api.Relist, Version: m.version(), Objects: m.objects}
	if got, want := whole(s.Snapshot()), whole(snapshot); got != want {
		t.Fatalf("the snapshot is\n%s, not\n%s", got, want)
	}
	for _, o := range m.objects {
		keys = append(keys, o.Key)
	}
	for _, k := range keys {
		var want api.Object
		i, is := m.find(k)
		if is {
			want = m.objects[i]
		}
		if o, got := s.Get(k); got != is || whole(o) != whole(want) {
			t.Fatalf("Get %s: %s %v, not %s %v", textOf(k), whole(o), got, whole(want), is)
		}
	}
}
