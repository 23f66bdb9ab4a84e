package local_test

import (
	"reflect"
	"testing"
	"unsafe"

	"scutage/api"
	"scutage/local"
	"scutage/vector"
)

// lay lays a sum where sums are kept: some 2^64 objects had to come ahead of the one that leads over the edge, which no test can wait for. Where sums are kept otherwise, there is no place to lay it.
func lay(t *testing.T, l *local.Local, space string, i int, v api.Vector) {
	t.Helper()
	f := reflect.ValueOf(l).Elem().FieldByName("sums")
	if !f.IsValid() || f.Type() != reflect.TypeFor[map[api.Bucket]api.Vector]() {
		t.Skip("sums are kept otherwise")
	}
	sums := *(*map[api.Bucket]api.Vector)(unsafe.Pointer(f.UnsafeAddr()))
	sums[api.Bucket{Space: space, Scope: i}] = v
}

// full has in the space a, of the scopes all and best, sums of cpu that are this number, and some mem.
func full(t *testing.T, n api.Wide) *local.Local {
	t.Helper()
	l, _ := fresh(t, "all", "best", "class")
	v := api.Vector{{Name: "cpu", N: n}, {Name: "mem", N: api.Wide{Lo: 5}}}
	lay(t, l, "a", 0, v[1:])
	lay(t, l, "a", 1, v)
	return l
}

// refusesFull applies what must answer ErrFull, and change nothing.
func refusesFull(t *testing.T, l *local.Local, d ...api.Delta) {
	t.Helper()
	was := look(l)
	if got, e := l.Apply(d); e != api.ErrFull || len(got) != 0 {
		t.Errorf("%+v: %q %d", d, got, e)
	}
	if is := look(l); is != was {
		t.Errorf("an error changes\n%s to\n%s", was, is)
	}
}

// P13.1, Apply: ErrFull of a sum that is no number any more, and nothing is changed: no other scope, space, or name, be it done ahead of it; ErrArg goes ahead of it.
func TestNoSuchNumber(t *testing.T) {
	most, least := api.Wide{Hi: 1<<63 - 1, Lo: 1<<64 - 1}, api.Wide{Hi: -1 << 63}
	x, other := pod("a", "x", "*", "cpu=1"), come(pod("0", "y", "*high", "cpu=1,mem=1"))
	nothing, beside := come(pod("a", "x", "*", "cpu=0,mem=2")), come(pod("a", "x", "high", "cpu=7"))
	for _, edge := range []struct {
		at, ahead api.Wide
		over      api.Delta
		text      string
	}{
		{most, api.Wide{Hi: 1<<63 - 1, Lo: 1<<64 - 2}, come(x), "cpu=170141183460469231731687303715884105727"},
		{least, api.Wide{Hi: -1 << 63, Lo: 1}, goes(x), "cpu=-170141183460469231731687303715884105728"},
	} {
		l := full(t, edge.at)
		for _, d := range [][]api.Delta{{edge.over}, {other, edge.over}, {edge.over, other}, {nothing, beside, edge.over}, {other, nothing, edge.over, other, beside}} {
			refusesFull(t, l, d...)
		}
		for _, wrong := range wrongDeltas() {
			refuses(t, l, edge.over, wrong)
			refuses(t, l, wrong, edge.over)
		}
		applied(t, l, "0 a", nothing, other, beside)
		has(t, l, "a", "cpu=7,mem=7,objects=2", edge.text+",mem=7,objects=1", "cpu=7,objects=1")
		refusesFull(t, l, edge.over)
		l = full(t, edge.ahead)
		refusesFull(t, l, edge.over, other, edge.over)
		applied(t, l, "a", edge.over)
		if got := l.Sum("a", 1); vector.Get(got, "cpu") != edge.at {
			t.Errorf("%s", told(got))
		}
		refusesFull(t, l, edge.over)
		loaded(t, l, x)
		has(t, l, "a", "cpu=1,objects=1", "cpu=1,objects=1", "")
	}
}
