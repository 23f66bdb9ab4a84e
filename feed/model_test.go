package feed_test

import (
	"fmt"
	"testing"

	"scutage/api"
	"scutage/feed"
)

// one is an event, as the model has it.
type one struct {
	key           string
	told, dropped bool
}

// model says once more, without a map, what a feed has to tell; it goes through all events each time.
type model struct {
	events  []one
	covered int64
}

func (m *model) has(i int) bool { return 0 <= i && i < len(m.events) }

func (m *model) settled(i int) bool { return m.events[i].told || int64(i)+1 <= m.covered }

// open tells whether an event is open, and not settled.
func (m *model) open(i int) bool { return !m.events[i].dropped && !m.settled(i) }

func (m *model) grow(k api.Key) { m.events = append(m.events, one{key: whole(k)}) }

func (m *model) tell(i int) api.Errno {
	if !m.has(i) {
		return api.ErrArg
	}
	if m.events[i].dropped {
		return api.ErrStale
	}
	for j := range i {
		if m.events[j].key == m.events[i].key && m.open(j) {
			return api.ErrOrder
		}
	}
	m.events[i].told = true
	return api.OK
}

func (m *model) drop(i int) api.Errno {
	if !m.has(i) {
		return api.ErrArg
	}
	if !m.open(i) {
		return api.ErrStale
	}
	m.events[i].dropped = true
	return api.OK
}

func (m *model) cover(version int64) api.Errno {
	if version > int64(len(m.events)) || version < 0 {
		return api.ErrArg
	}
	if version < m.covered {
		return api.ErrStale
	}
	m.covered = version
	return api.OK
}

// safe tries each version, from the length on down.
func (m *model) safe() int64 {
	for n := len(m.events); n > 0; n-- {
		all := true
		for i := range n {
			all = all && m.settled(i)
		}
		if all {
			return int64(n)
		}
	}
	return 0
}

// allSettled asks of each event that no other one of its key is behind.
func (m *model) allSettled() bool {
	for i, e := range m.events {
		last := true
		for _, other := range m.events[i+1:] {
			last = last && other.key != e.key
		}
		if last && !m.settled(i) {
			return false
		}
	}
	return true
}

func (m *model) allOpen() []int {
	var l []int
	for i := range m.events {
		if m.open(i) {
			l = append(l, i)
		}
	}
	return l
}

// copied is a model of its own.
func (m *model) copied() *model {
	return &model{append([]one{}, m.events...), m.covered}
}

// whole is all that is in something, as one text.
func whole(x any) string { return fmt.Sprintf("%+q", x) }

// call is one of a feed that may change it: g(row), t(ell), d(rop), c(over).
type call struct {
	does byte
	key  api.Key
	n    int64
}

// try calls it.
func try(f *feed.Feed, c call) api.Errno {
	switch c.does {
	case 'g':
		f.Grow(c.key)
	case 't':
		return f.Tell(int(c.n))
	case 'd':
		return f.Drop(int(c.n))
	case 'c':
		return f.Cover(c.n)
	}
	return api.OK
}

// try is what the chapter says of it.
func (m *model) try(c call) api.Errno {
	switch c.does {
	case 'g':
		m.grow(c.key)
	case 't':
		return m.tell(int(c.n))
	case 'd':
		return m.drop(int(c.n))
	case 'c':
		return m.cover(c.n)
	}
	return api.OK
}

// do calls both, and holds what they answer against each other.
func do(t *testing.T, f *feed.Feed, m *model, c call) api.Errno {
	t.Helper()
	was := whole(m)
	got, want := try(f, c), m.try(c)
	if got != want {
		t.Fatalf("behind %s: %c %d: %d, not %d", was, c.does, c.n, got, want)
	}
	return got
}

// look is all that a feed tells without being changed, as a text.
func look(f *feed.Feed) string {
	return fmt.Sprint(f.Len(), f.Safe(), f.Settled(), f.Open())
}

// look is what it should be.
func (m *model) look() string {
	return fmt.Sprint(len(m.events), m.safe(), m.allSettled(), m.allOpen())
}

// holds tells whether a feed tells what the model has.
func holds(t *testing.T, f *feed.Feed, m *model) {
	t.Helper()
	if got, want := look(f), m.look(); got != want {
		t.Fatalf("%s: %s, not %s", whole(m), got, want)
	}
}
