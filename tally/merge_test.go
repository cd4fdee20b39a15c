package tally_test

import (
	"fmt"
	"math/rand"
	"testing"

	"rostrum/api"
	"rostrum/tally"
)

// merged is what one has behind Merges of others, each of which stays as it was.
func merged(t *testing.T, x *tally.Tally, others ...*tally.Tally) *tally.Tally {
	t.Helper()
	for _, o := range others {
		ups, downs := o.Up(), o.Down()
		x.Merge(o)
		if o != x {
			holds(t, "what was merged", o, ups, downs)
		}
	}
	return x
}

func TestMerge(t *testing.T) {
	here, there := numbers{5, 2, 7, 0, 3, 0, mostBy}, numbers{4, 9, 7, 0, 0, 6, mostBy + 1}
	greater := numbers{5, 9, 7, 0, 3, 6, mostBy + 1}
	small, none := numbers{1, 1, 1, 1, 1, 1, 1}, numbers{}
	for _, c := range []struct{ ups, downs, otherUps, otherDowns, wantUps, wantDowns numbers }{
		{here, none, there, none, greater, none},
		{none, here, none, there, none, greater},
		{here, there, there, here, greater, greater},
		{here, none, none, there, here, there},
		{none, here, there, none, there, here},
		{here, small, there, none, greater, small},
		{here, none, none, none, here, none},
		{none, none, none, none, none, none},
	} {
		a := merged(t, of(t, c.ups, c.downs), of(t, c.otherUps, c.otherDowns))
		holds(t, "Merge", a, c.wantUps, c.wantDowns)
		b := merged(t, of(t, c.otherUps, c.otherDowns), of(t, c.ups, c.downs))
		holds(t, "Merge in the other order", b, c.wantUps, c.wantDowns)
		if !tally.Same(a, b) || string(a.Put(nil)) != string(b.Put(nil)) {
			t.Errorf("P10.1: Merge in either order is not Same")
		}
	}
}

func TestMergeOfEachNumber(t *testing.T) {
	ground := numbers{3, 4, 5, 6, 7, 8, 9}
	for rep := range 7 {
		for _, n := range []int64{0, ground[rep] - 1, ground[rep], ground[rep] + 1, mostBy, most} {
			other := at(ground, rep, n)
			want := at(ground, rep, max(n, ground[rep]))
			what := fmt.Sprintf("Merge with %d of replica %d", n, rep)
			holds(t, what+" in the ups", merged(t, of(t, ground, numbers{}), of(t, other, numbers{})), want, numbers{})
			holds(t, what+" in the downs", merged(t, of(t, numbers{}, ground), of(t, numbers{}, other)), numbers{}, want)
			holds(t, what+" in the ups, the other way", merged(t, of(t, other, ground), of(t, ground, ground)), want, ground)
			holds(t, what+" in the downs, the other way", merged(t, of(t, ground, other), of(t, ground, ground)), ground, want)
		}
	}
}

func TestMergeWithItselfAndTwice(t *testing.T) {
	ups, downs := numbers{1, 0, 3, 0, 5, 0, most}, numbers{0, 2, 3, 0, most, 0, 7}
	x := of(t, ups, downs)
	holds(t, "Merge with itself", merged(t, x, x), ups, downs)
	other := of(t, numbers{2, 2, 2}, numbers{4, 1, 4})
	wantUps, wantDowns := numbers{2, 2, 3, 0, 5, 0, most}, numbers{4, 2, 4, 0, most, 0, 7}
	holds(t, "Merge twice", merged(t, x, other, other), wantUps, wantDowns)
	holds(t, "Merge with itself then", merged(t, x, x, other), wantUps, wantDowns)
	holds(t, "Merge back", merged(t, other, x), wantUps, wantDowns)
	// The two are not one: what either counts then is its own.
	tell(t, x, step{0, 10, api.OK}, step{1, -10, api.OK})
	tell(t, other, step{0, 1, api.OK}, step{3, -1, api.OK})
	holds(t, "one behind Merge and Add", x, at(wantUps, 0, 12), at(wantDowns, 1, 12))
	holds(t, "the other behind Merge and Add", other, at(wantUps, 0, 3), at(wantDowns, 3, 1))
}

func TestMergeThenAddAtLimit(t *testing.T) {
	x := merged(t, tally.New(), full(t, true, false))
	tell(t, x, step{0, 1, api.ELIMIT}, step{6, mostBy, api.ELIMIT}, step{0, -1, api.OK}, step{0, 0, api.OK})
	y := merged(t, tally.New(), full(t, false, true))
	tell(t, y, step{0, -1, api.ELIMIT}, step{6, -mostBy, api.ELIMIT}, step{0, 1, api.OK})
	x = merged(t, x, y)
	if !tally.Same(x, full(t, true, true)) {
		t.Errorf("P10.1: Merge at the limits: %v, %v", x.Up(), x.Down())
	}
}

// house is replicas that count, each in its own place, and merge: by the chapter's words each one's numbers are
// then the sums of those Adds of each replica that it has heard of.
type house struct {
	told  [7][]int64 // each replica's Adds, in their order
	heard [7][7]int  // how many of each replica's Adds each one has heard of
	real  [7]*tally.Tally
}

func newHouse() *house {
	h := &house{}
	for rep := range h.real {
		h.real[rep] = tally.New()
	}
	return h
}

// add lets a replica count.
func (h *house) add(t *testing.T, rep int, by int64) {
	t.Helper()
	tell(t, h.real[rep], step{rep, by, api.OK})
	h.told[rep] = append(h.told[rep], by)
	h.heard[rep][rep]++
}

// merge lets one replica hear of all that another one has heard of.
func (h *house) merge(to, from int) {
	h.real[to].Merge(h.real[from])
	for rep := range 7 {
		h.heard[to][rep] = max(h.heard[to][rep], h.heard[from][rep])
	}
}

// check holds each replica's tally against the sums.
func (h *house) check(t *testing.T) {
	t.Helper()
	for rep, x := range h.real {
		var ups, downs numbers
		for other, count := range h.heard[rep] {
			for _, by := range h.told[other][:count] {
				ups[other] += max(by, 0)
				downs[other] += max(-by, 0)
			}
		}
		holds(t, fmt.Sprintf("replica %d", rep), x, ups, downs)
	}
}

func TestManyAddsAndMerges(t *testing.T) {
	for seed := range int64(40) {
		rnd := rand.New(rand.NewSource(seed))
		h := newHouse()
		for range 60 {
			if rnd.Intn(2) == 0 {
				h.merge(rnd.Intn(7), rnd.Intn(7))
			} else {
				h.add(t, rnd.Intn(7), rnd.Int63n(2001)-1000)
			}
			h.check(t)
		}
		// Two rounds, and all have heard of all.
		for range 2 {
			for rep := range 7 {
				h.merge((rep+1)%7, rep)
			}
		}
		h.check(t)
		for rep := range 7 {
			if !tally.Same(h.real[rep], h.real[0]) {
				t.Errorf("P10.1: seed %d: replica %d is not Same as replica 0", seed, rep)
			}
		}
	}
}
