package orset_test

import (
	"fmt"
	"math"
	"runtime"
	"testing"

	"rostrum/api"
	"rostrum/orset"
	"rostrum/vec"
)

// mixed is a set of which some is there, some was taken away, and some was nothing.
func mixed(t *testing.T) *orset.Set {
	t.Helper()
	return of(t,
		add(dot(0, 1), "x", api.OK), add(dot(0, 2), "y", api.OK), add(dot(1, 1), "x", api.OK), add(dot(0, 3), "z", api.OK),
		remove("x", vec.Vec{1, 3}, api.OK), remove("z", vec.Vec{5, 1}, api.OK),
		add(dot(1, 4), "x", api.OK), add(dot(1, 3), "x", api.OK), add(dot(0, 7), "z", api.OK))
}

const mixedShown = "x 1.4; y 0.2; z 0.7"

// stables are clocks that have none, some and all of what is there, and such as are not Good.
func stables() []vec.Vec {
	most := vec.Vec{most, most, most, most, most, most, most}
	row := []vec.Vec{
		{}, {1}, {0, 1}, {1, 1}, {2, 3}, {3, 3}, {5, 3}, {2, 4}, {6, 4}, {7, 4}, {9, 9, 9, 9, 9, 9, 9}, {2: 9}, most,
		{math.MaxInt64, math.MaxInt64}, {math.MinInt64, -1, -9},
	}
	return append(row, wrongClocks()...)
}

func TestDropTellsTheSame(t *testing.T) {
	for _, v := range stables() {
		what := fmt.Sprintf("Drop(%v)", v)
		s := tell(t, mixed(t), drop(v))
		holds(t, what, s, mixedShown)
		if !orset.Same(s, mixed(t)) || !orset.Same(mixed(t), s) {
			t.Errorf("P9.1: %s: not Same as without it", what)
		}
		if string(s.Put(nil)) != string(mixed(t).Put(nil)) {
			t.Errorf("P9.1: %s: Put %x, without it %x", what, s.Put(nil), mixed(t).Put(nil))
		}
		tell(t, s, drop(v), drop(vec.Vec{}), drop(vec.Vec{9, 9, 9, 9, 9, 9, 9}))
		holds(t, what+" and others", s, mixedShown)
		holds(t, what+" and Copy", s.Copy(), mixedShown)
		empty := tell(t, orset.New(), drop(v), add(dot(0, 8), "x", api.OK))
		holds(t, what+" of none", empty, "x 0.8")
	}
}

// What is there is known behind any Drop, so that its dot is no other text's.
func TestDropKeepsWhatIsThere(t *testing.T) {
	for _, v := range stables() {
		s := tell(t, mixed(t), drop(v))
		for _, c := range []struct {
			d api.Dot
			x string
		}{{dot(1, 4), "x"}, {dot(0, 2), "y"}, {dot(0, 7), "z"}} {
			for _, other := range []string{"", "x", "y", "z", "q"} {
				if other == c.x {
					tell(t, s, add(c.d, other, api.OK))
				} else {
					tell(t, s, add(c.d, other, api.EEXIST))
				}
			}
		}
		holds(t, fmt.Sprintf("Adds of what is there behind Drop(%v)", v), s, mixedShown)
	}
}

// What stable does not have is known as ahead of the Drop.
func TestDropKeepsWhatIsNotStable(t *testing.T) {
	s := tell(t, mixed(t), drop(vec.Vec{2, 1}))
	// A dot that was taken away, one that was nothing, and ones that an earlier Remove had seen.
	tell(t, s, add(dot(0, 3), "z", api.OK), add(dot(1, 3), "x", api.OK), add(dot(1, 2), "x", api.OK), add(dot(0, 4), "z", api.OK))
	holds(t, "what Removes had seen, and stable has not", s, mixedShown)
	tell(t, s, add(dot(0, 3), "x", api.EEXIST), add(dot(1, 3), "z", api.EEXIST), add(dot(1, 2), "y", api.EEXIST))
	tell(t, s, add(dot(0, 4), "y", api.EEXIST))
	holds(t, "dots that were added for other texts", s, mixedShown)
	tell(t, s, add(dot(0, 5), "z", api.OK), add(dot(0, 6), "z", api.OK), add(dot(1, 5), "x", api.OK), add(dot(2, 1), "z", api.OK))
	holds(t, "later dots", s, "x 1.4 1.5; y 0.2; z 0.6 0.7 2.1")
	tell(t, s, add(dot(0, 8), "q", api.OK), remove("z", vec.Vec{6, 1, 1}, api.OK), remove("x", vec.Vec{1: 4}, api.OK))
	holds(t, "later Removes", s, "q 0.8; x 1.5; y 0.2; z 0.7")
	tell(t, s, drop(vec.Vec{6, 4, 1}), add(dot(1, 6), "x", api.OK), add(dot(0, 9), "y", api.OK), add(dot(2, 2), "z", api.OK))
	holds(t, "a later Drop", s, "q 0.8; x 1.5 1.6; y 0.2 0.9; z 0.7 2.2")
}

// What was there at a Drop and is taken away later was known, and is.
func TestDropThenRemove(t *testing.T) {
	for _, v := range stables() {
		xSeen, ySeen := vec.Vec{2, 4, 2: most}, vec.Vec{2, 0, most}
		if vec.Le(xSeen, v) || vec.Le(ySeen, v) {
			continue // such Removes do not come
		}
		s := tell(t, mixed(t), drop(v), remove("x", xSeen, api.OK), remove("y", ySeen, api.OK))
		holds(t, fmt.Sprintf("Removes behind Drop(%v)", v), s, "z 0.7")
		tell(t, s, add(dot(1, 4), "x", api.OK), add(dot(0, 2), "y", api.OK), add(dot(1, 4), "y", api.EEXIST), add(dot(0, 2), "x", api.EEXIST))
		holds(t, fmt.Sprintf("Adds of what was taken away behind Drop(%v)", v), s, "z 0.7")
	}
}

// One replica's dots that a Remove had seen may all be stable, while another's are not.
func TestDropOfOneReplica(t *testing.T) {
	s := of(t, remove("x", vec.Vec{4, 4, 4}, api.OK), drop(vec.Vec{4, 3, 0}))
	tell(t, s, add(dot(1, 4), "x", api.OK), add(dot(2, 1), "x", api.OK), add(dot(2, 4), "x", api.OK))
	holds(t, "dots that a Remove had seen", s, "")
	tell(t, s, add(dot(0, 5), "x", api.OK), add(dot(1, 5), "x", api.OK), add(dot(2, 5), "x", api.OK))
	holds(t, "dots that no Remove had seen", s, "x 0.5 1.5 2.5")
}

// heap tells how many bytes are in use.
func heap() uint64 {
	runtime.GC()
	var m runtime.MemStats
	runtime.ReadMemStats(&m)
	return m.HeapAlloc
}

// What need not be known any more is not kept.
func TestDropForgets(t *testing.T) {
	const rounds, each = 300, 200
	s := orset.New()
	ahead := heap()
	for round := range int64(rounds) {
		for i := 1 + round*each; i <= (1+round)*each; i++ {
			x := fmt.Sprintf("%0100d", i)
			tell(t, s, remove(x, vec.Vec{2: i}, api.OK), add(dot(0, i), x, api.OK), remove(x, vec.Vec{i}, api.OK), add(dot(2, i), x, api.OK))
		}
		s.Drop(vec.Vec{(1 + round) * each, 0, (1 + round) * each})
	}
	if grown := int64(heap()) - int64(ahead); grown > 2000000 {
		t.Errorf("Drop: %d bytes are kept of what was dropped", grown)
	}
	holds(t, "many Drops", s, "")
}
