package tally_test

import (
	"fmt"
	"math"
	"testing"

	"rostrum/api"
	"rostrum/tally"
)

const (
	mostBy  = int64(1099511627776)    // 2^40, written out
	most    = int64(1125899906842624) // 2^50, written out
	lowest  = math.MinInt64
	highest = math.MaxInt64
)

// numbers are one of each replica.
type numbers = [7]int64

// step is an Add, and what it must answer.
type step struct {
	rep  int
	by   int64
	want api.Errno
}

// tell does Adds, each of which must answer what it wants.
func tell(t *testing.T, x *tally.Tally, steps ...step) *tally.Tally {
	t.Helper()
	for i, one := range steps {
		if err := x.Add(one.rep, one.by); err != one.want {
			t.Errorf("P10.1: step %d, Add(%d, %d): %d, want %d", i, one.rep, one.by, err, one.want)
		}
	}
	return x
}

// of is a tally that counts just these, told by Adds alone.
func of(t *testing.T, ups, downs numbers) *tally.Tally {
	t.Helper()
	x := tally.New()
	for rep := range 7 {
		raise(t, x, rep, ups[rep], 1)
		raise(t, x, rep, downs[rep], -1)
	}
	holds(t, "Adds", x, ups, downs)
	return x
}

// raise counts up (sign 1) or down (sign -1) till it is that much more.
func raise(t *testing.T, x *tally.Tally, rep int, by, sign int64) {
	t.Helper()
	for by > 0 {
		part := min(by, mostBy)
		tell(t, x, step{rep, sign * part, api.OK})
		by -= part
	}
}

// full is a tally of which each replica's ups, or downs, or both, are at their limit.
func full(t *testing.T, up, down bool) *tally.Tally {
	t.Helper()
	var ups, downs numbers
	for rep := range 7 {
		if up {
			ups[rep] = most
		}
		if down {
			downs[rep] = most
		}
	}
	return of(t, ups, downs)
}

// holds tells whether a tally has just these, by all that tells them.
func holds(t *testing.T, what string, x *tally.Tally, ups, downs numbers) {
	t.Helper()
	value := int64(0)
	for _, n := range ups {
		value += n
	}
	for _, n := range downs {
		value -= n
	}
	for range 2 {
		if x.Up() != ups || x.Down() != downs || x.Value() != value {
			t.Errorf("P10.1: %s: %v, %v, %d, want %v, %v, %d", what, x.Up(), x.Down(), x.Value(), ups, downs, value)
		}
	}
}

// at is numbers with another one at one place.
func at(ground numbers, place int, n int64) numbers {
	ground[place] = n
	return ground
}

func TestExample(t *testing.T) {
	x := tell(t, tally.New(), step{0, 5, api.OK}, step{1, -2, api.OK})
	if x.Value() != 3 {
		t.Errorf("P10.1: the chapter's example: %d", x.Value())
	}
	holds(t, "the chapter's example", x, numbers{5}, numbers{0, 2})
}

func TestNew(t *testing.T) {
	x, y := tally.New(), tally.New()
	holds(t, "New", x, numbers{}, numbers{})
	tell(t, x, step{0, 1, api.OK}, step{6, -1, api.OK})
	holds(t, "another New", y, numbers{}, numbers{})
	holds(t, "a later New", tally.New(), numbers{}, numbers{})
}

func TestAddCounts(t *testing.T) {
	for rep := range 7 {
		for _, by := range []int64{0, 1, 2, 63, 64, mostBy - 1, mostBy} {
			x := tell(t, tally.New(), step{rep, by, api.OK})
			holds(t, fmt.Sprintf("Add(%d, %d)", rep, by), x, at(numbers{}, rep, by), numbers{})
			tell(t, x, step{rep, -by, api.OK})
			if by == 0 {
				holds(t, "Add of 0", x, numbers{}, numbers{})
				continue
			}
			// What is taken away lessens no ups.
			holds(t, fmt.Sprintf("Add(%d, %d) behind it", rep, -by), x, at(numbers{}, rep, by), at(numbers{}, rep, by))
			tell(t, x, step{rep, -1, api.OK}, step{rep, 5, api.OK}, step{rep, 0, api.OK})
			holds(t, "further Adds", x, at(numbers{}, rep, by+5), at(numbers{}, rep, by+1))
		}
	}
}

// noReplicas are numbers that are none of a replica.
func noReplicas() []int {
	return []int{math.MinInt, math.MinInt + 1, math.MinInt32, -8, -7, -6, -1, 7, 8, 13, 14, math.MaxInt32, math.MaxInt - 1, math.MaxInt}
}

// tooMuch are numbers that no Add counts.
func tooMuch() []int64 {
	return []int64{lowest, lowest + 1, -most - 1, -most, -2 * mostBy, -mostBy - 2, -mostBy - 1, mostBy + 1, mostBy + 2, 2 * mostBy, most, most + 1, highest - 1, highest}
}

func TestAddNoReplica(t *testing.T) {
	ups, downs := numbers{1, 2, 3, 4, 5, 6, 7}, numbers{9, 8, 7, 6, 5, 4, 3}
	x := of(t, ups, downs)
	for _, rep := range noReplicas() {
		for _, by := range append(tooMuch(), -mostBy, -1, 0, 1, mostBy) {
			tell(t, x, step{rep, by, api.EARG})
		}
	}
	holds(t, "behind Adds of no replica", x, ups, downs)
}

func TestAddTooMuch(t *testing.T) {
	ups, downs := numbers{1, 2, 3, 4, 5, 6, 7}, numbers{9, 8, 7, 6, 5, 4, 3}
	x, empty := of(t, ups, downs), tally.New()
	for rep := range 7 {
		for _, by := range tooMuch() {
			tell(t, x, step{rep, by, api.EARG})
			tell(t, empty, step{rep, by, api.EARG})
		}
	}
	holds(t, "behind Adds of too much", x, ups, downs)
	holds(t, "none behind Adds of too much", empty, numbers{}, numbers{})
	// Nor does what was refused leave less room.
	for rep := range 7 {
		tell(t, x, step{rep, mostBy, api.OK}, step{rep, -mostBy, api.OK})
		ups[rep] += mostBy
		downs[rep] += mostBy
	}
	holds(t, "Adds of the most", x, ups, downs)
}

// EARG is named first, also where the limit is reached.
func TestAddTooMuchAtLimit(t *testing.T) {
	x := full(t, true, true)
	for _, by := range tooMuch() {
		for rep := range 7 {
			tell(t, x, step{rep, by, api.EARG})
		}
	}
	for _, rep := range noReplicas() {
		tell(t, x, step{rep, 1, api.EARG}, step{rep, -1, api.EARG}, step{rep, 0, api.EARG})
	}
	if !tally.Same(x, full(t, true, true)) {
		t.Errorf("P10.1: behind Adds at the limit: %v, %v", x.Up(), x.Down())
	}
}

func TestAddLimit(t *testing.T) {
	for rep := range 7 {
		for _, sign := range []int64{1, -1} {
			x := tally.New()
			raise(t, x, rep, most-mostBy, sign)
			// One above the limit, then the limit itself.
			tell(t, x, step{rep, sign * (mostBy - 3), api.OK}, step{rep, sign * 4, api.ELIMIT}, step{rep, sign * mostBy, api.ELIMIT})
			holdsOne(t, "beneath the limit", x, rep, sign, most-3)
			tell(t, x, step{rep, sign * 3, api.OK})
			holdsOne(t, "at the limit", x, rep, sign, most)
			for _, by := range []int64{1, 2, 1000, mostBy - 1, mostBy} {
				tell(t, x, step{rep, sign * by, api.ELIMIT})
			}
			tell(t, x, step{rep, 0, api.OK}, step{rep, 0, api.OK})
			holdsOne(t, "behind Adds above the limit", x, rep, sign, most)
		}
	}
}

// holdsOne tells whether one replica counted that much up (sign 1) or down (sign -1), and nothing else was counted.
func holdsOne(t *testing.T, what string, x *tally.Tally, rep int, sign, n int64) {
	t.Helper()
	if sign > 0 {
		holds(t, what, x, at(numbers{}, rep, n), numbers{})
	} else {
		holds(t, what, x, numbers{}, at(numbers{}, rep, n))
	}
}

func TestAddLimitAtOnce(t *testing.T) {
	for _, sign := range []int64{1, -1} {
		x := tally.New()
		for i := range 1024 {
			if err := x.Add(3, sign*mostBy); err != api.OK {
				t.Fatalf("P10.1: Add of the most, time %d: %d", i, err)
			}
		}
		holdsOne(t, "1024 Adds of the most", x, 3, sign, most)
		tell(t, x, step{3, sign * mostBy, api.ELIMIT}, step{3, sign, api.ELIMIT})
		holdsOne(t, "a further one", x, 3, sign, most)
	}
}

// The two limits, and those of two replicas, are apart.
func TestAddLimitsApart(t *testing.T) {
	for rep := range 7 {
		for _, sign := range []int64{1, -1} {
			x := tally.New()
			raise(t, x, rep, most, sign)
			var ups, downs numbers
			for other := range 7 {
				raise(t, x, other, mostBy, -sign)
				downs[other] = mostBy
				if other != rep {
					raise(t, x, other, mostBy, sign)
					ups[other] = mostBy
				}
			}
			ups[rep] = most
			if sign < 0 {
				ups, downs = downs, ups
			}
			holds(t, "Adds beside one at its limit", x, ups, downs)
			// What was counted the other way makes no room.
			tell(t, x, step{rep, sign, api.ELIMIT})
			raise(t, x, rep, most-mostBy, -sign)
			tell(t, x, step{rep, sign, api.ELIMIT}, step{rep, -sign, api.ELIMIT}, step{rep, 0, api.OK})
		}
	}
}

func TestValue(t *testing.T) {
	for _, c := range []struct {
		ups, downs numbers
		want       int64
	}{
		{numbers{}, numbers{}, 0},
		{numbers{4}, numbers{}, 4},
		{numbers{1, 2, 3, 4, 5, 6, 7}, numbers{}, 28},
		{numbers{}, numbers{6: 4}, -4},
		{numbers{}, numbers{1, 2, 3, 4, 5, 6, 7}, -28},
		{numbers{10, 0, 7, 0, 0, 0, 1}, numbers{0, 3, 9, 0, 0, 2, 0}, 4},
		{numbers{1, 0, 7, 0, 0, 0, 1}, numbers{20, 3, 9, 0, 0, 2, 0}, -25},
		{numbers{5, 6}, numbers{6, 5}, 0},
		{numbers{mostBy}, numbers{1: 1}, mostBy - 1},
	} {
		if got := of(t, c.ups, c.downs).Value(); got != c.want {
			t.Errorf("P10.1: Value of %v, %v: %d, want %d", c.ups, c.downs, got, c.want)
		}
	}
}

func TestValueAtLimits(t *testing.T) {
	const all = int64(7881299347898368) // 7 times 2^50, written out
	for _, c := range []struct {
		up, down bool
		want     int64
	}{{true, false, all}, {false, true, -all}, {true, true, 0}} {
		if got := full(t, c.up, c.down).Value(); got != c.want {
			t.Errorf("P10.1: Value, all ups at their limit %v, all downs %v: %d, want %d", c.up, c.down, got, c.want)
		}
	}
}

func TestUpAndDown(t *testing.T) {
	x := tally.New()
	if x.Up() != (numbers{}) || x.Down() != (numbers{}) {
		t.Errorf("P10.1: Up, Down of none: %v, %v", x.Up(), x.Down())
	}
	tell(t, x, step{2, 3, api.OK}, step{5, -7, api.OK}, step{2, 4, api.OK}, step{6, 1, api.OK}, step{5, -1, api.OK}, step{2, -2, api.OK}, step{0, -6, api.OK})
	if x.Up() != (numbers{2: 7, 6: 1}) || x.Down() != (numbers{0: 6, 2: 2, 5: 8}) {
		t.Errorf("P10.1: Up, Down of several: %v, %v", x.Up(), x.Down())
	}
}

// What was answered is changed by nobody, and changes nothing.
func TestUpAndDownStay(t *testing.T) {
	x := of(t, numbers{1, 2}, numbers{0, 3, 4})
	up, down := x.Up(), x.Down()
	tell(t, x, step{0, 9, api.OK}, step{1, -9, api.OK})
	x.Merge(of(t, numbers{50, 50, 50, 50, 50, 50, 50}, numbers{60, 60, 60, 60, 60, 60, 60}))
	if up != (numbers{1, 2}) || down != (numbers{0, 3, 4}) {
		t.Errorf("R4: later calls changed earlier answers: %v, %v", up, down)
	}
	up, down = x.Up(), x.Down()
	clear(up[:])
	clear(down[:])
	holds(t, "behind what was done to answers", x, numbers{50, 50, 50, 50, 50, 50, 50}, numbers{60, 60, 60, 60, 60, 60, 60})
}

func TestSame(t *testing.T) {
	ups, downs := numbers{3, 0, 5, 0, 0, 0, 2}, numbers{0, 4, 6, 0, 0, 0, 1}
	a := of(t, ups, downs)
	b := tell(t, tally.New(), step{6, -1, api.OK}, step{2, -2, api.OK}, step{6, 2, api.OK}, step{2, 5, api.OK}, step{0, 1, api.OK},
		step{1, -4, api.OK}, step{2, -4, api.OK}, step{4, 0, api.OK}, step{0, 2, api.OK}, step{7, 3, api.EARG}, step{3, mostBy + 1, api.EARG})
	if !tally.Same(a, b) || !tally.Same(b, a) || !tally.Same(a, a) {
		t.Errorf("P10.1: those that were counted in another order are not Same: %v, %v", b.Up(), b.Down())
	}
	if !tally.Same(tally.New(), tally.New()) || tally.Same(a, tally.New()) || tally.Same(tally.New(), a) {
		t.Errorf("P10.1: Same beside none")
	}
	holds(t, "behind Same", a, ups, downs)
	holds(t, "behind Same", b, ups, downs)
}

func TestSameHeedsEachNumber(t *testing.T) {
	ground := numbers{3, 4, 5, 6, 7, 8, 9}
	a := of(t, ground, ground)
	for rep := range 7 {
		up := of(t, at(ground, rep, ground[rep]+1), ground)
		down := of(t, ground, at(ground, rep, ground[rep]+1))
		// Both at once: the Value is as it was.
		both := of(t, at(ground, rep, ground[rep]+1), at(ground, rep, ground[rep]+1))
		moved := of(t, at(at(ground, rep, ground[rep]+1), (rep+1)%7, ground[(rep+1)%7]-1), ground)
		if both.Value() != a.Value() || moved.Value() != a.Value() {
			t.Fatalf("P10.1: Value: %d, %d, want %d", both.Value(), moved.Value(), a.Value())
		}
		all := []*tally.Tally{a, up, down, both, moved}
		for i, one := range all {
			for j, other := range all {
				if tally.Same(one, other) != (i == j) {
					t.Errorf("P10.1: Same of number %d and %d, replica %d: %v", i, j, rep, i != j)
				}
			}
		}
	}
}

func TestSameUpsAreNotDowns(t *testing.T) {
	a, b := of(t, numbers{1, 2}, numbers{2, 1}), of(t, numbers{2, 1}, numbers{1, 2})
	if a.Value() != b.Value() || tally.Same(a, b) || tally.Same(b, a) {
		t.Errorf("P10.1: Same of ups and downs that are each other's")
	}
}
