package orset_test

import (
	"fmt"
	"math"
	"slices"
	"strings"
	"testing"

	"rostrum/api"
	"rostrum/orset"
	"rostrum/vec"
)

const most = int64(1099511627776) // 2^40, written out

// dot is a dot in few letters.
func dot(rep int, n int64) api.Dot { return api.Dot{Rep: rep, N: n} }

// long is a text of so many bytes.
func long(length int) string { return strings.Repeat("v", length) }

// show tells a set's texts and their dots: "x 0.1 2.1; y 0.2".
func show(s *orset.Set) string {
	var texts []string
	for _, x := range s.All() {
		text := x
		for _, d := range s.Dots(x) {
			text += fmt.Sprintf(" %d.%d", d.Rep, d.N)
		}
		texts = append(texts, text)
	}
	return strings.Join(texts, "; ")
}

// step is a call that changes a set, and what it must answer.
type step struct {
	what string
	do   func(s *orset.Set) api.Errno
	want api.Errno
}

func add(d api.Dot, x string, want api.Errno) step {
	what := fmt.Sprintf("Add(%d.%d, %.20q)", d.Rep, d.N, x)
	return step{what, func(s *orset.Set) api.Errno { return s.Add(d, x) }, want}
}

func remove(x string, seen vec.Vec, want api.Errno) step {
	what := fmt.Sprintf("Remove(%.20q, %v)", x, seen)
	return step{what, func(s *orset.Set) api.Errno { return s.Remove(x, seen) }, want}
}

func drop(stable vec.Vec) step {
	what := fmt.Sprintf("Drop(%v)", stable)
	return step{what, func(s *orset.Set) api.Errno { s.Drop(stable); return api.OK }, api.OK}
}

// tell does steps, each of which must answer what it wants.
func tell(t *testing.T, s *orset.Set, steps ...step) *orset.Set {
	t.Helper()
	for i, one := range steps {
		if err := one.do(s); err != one.want {
			t.Errorf("P9.1: step %d, %s: %d, want %d", i, one.what, err, one.want)
		}
	}
	return s
}

// of is a set that was told some steps.
func of(t *testing.T, steps ...step) *orset.Set {
	t.Helper()
	return tell(t, orset.New(), steps...)
}

// holds tells whether a set has just what is told, by all that tells it.
func holds(t *testing.T, what string, s *orset.Set, want string) {
	t.Helper()
	if got := show(s); got != want {
		t.Errorf("P9.1: %s: %q, want %q", what, got, want)
	}
	all := s.All()
	for _, x := range all {
		if !s.Has(x) || len(s.Dots(x)) == 0 {
			t.Errorf("P9.1: %s: Has(%q) %v, Dots %v", what, x, s.Has(x), s.Dots(x))
		}
	}
	for _, x := range []string{"", "x", "y", "z", "X", "x ", long(100), long(101)} {
		if there := slices.Contains(all, x); s.Has(x) != there || (len(s.Dots(x)) > 0) != there {
			t.Errorf("P9.1: %s: Has(%.20q) %v, Dots %v", what, x, s.Has(x), s.Dots(x))
		}
	}
}

// wrongDots are dots that may not be.
func wrongDots() []api.Dot {
	var row []api.Dot
	for _, rep := range []int{math.MinInt, -7, -1, 7, 8, math.MaxInt} {
		for _, n := range []int64{-1, 0, 1, 2, most, most + 1} {
			row = append(row, dot(rep, n))
		}
	}
	for rep := range 7 {
		for _, n := range []int64{math.MinInt64, -most, -1, 0, most + 1, math.MaxInt64} {
			row = append(row, dot(rep, n))
		}
	}
	return row
}

// wrongClocks are clocks that are not Good.
func wrongClocks() []vec.Vec {
	var row []vec.Vec
	for place := range 7 {
		for _, n := range []int64{math.MinInt64, -1, most + 1, math.MaxInt64} {
			v := vec.Vec{1, 1, 1, 1, 1, 1, 1}
			v[place] = n
			row = append(row, v)
		}
	}
	return row
}

func TestNew(t *testing.T) {
	s := orset.New()
	holds(t, "New", s, "")
	if len(s.All()) != 0 || len(s.Dots("x")) != 0 || s.Has("") {
		t.Errorf("P9.1: New has %v", s.All())
	}
	tell(t, s, add(dot(0, 1), "x", api.OK))
	holds(t, "another New", orset.New(), "")
}

func TestExample(t *testing.T) {
	s := of(t, add(dot(0, 1), "x", api.OK), remove("x", vec.Vec{1}, api.OK), add(dot(1, 1), "x", api.OK))
	holds(t, "the chapter's example", s, "x 1.1")
}

func TestAddEdges(t *testing.T) {
	for _, rep := range []int{0, 6} {
		for _, n := range []int64{1, 2, most - 1, most} {
			s := of(t, add(dot(rep, n), "x", api.OK))
			holds(t, "Add", s, fmt.Sprintf("x %d.%d", rep, n))
		}
	}
	for _, length := range []int{0, 1, 99, 100} {
		s := of(t, add(dot(3, 5), long(length), api.OK))
		holds(t, "Add", s, long(length)+" 3.5")
	}
}

func TestAddWrongDot(t *testing.T) {
	s := of(t, add(dot(0, 1), "x", api.OK))
	for _, d := range wrongDots() {
		for _, x := range []string{"x", "y", "", long(100), long(101)} {
			tell(t, s, add(d, x, api.EARG))
		}
	}
	holds(t, "behind wrong dots", s, "x 0.1")
}

func TestAddLongText(t *testing.T) {
	s := of(t, add(dot(0, 1), "x", api.OK))
	for _, length := range []int{101, 102, 1000, 70000} {
		for _, d := range []api.Dot{dot(0, 1), dot(0, 2), dot(6, most), dot(7, 1), dot(0, 0)} {
			tell(t, s, add(d, long(length), api.EARG))
		}
	}
	holds(t, "behind texts that are too long", s, "x 0.1")
	// Bytes are counted, not letters.
	tell(t, s, add(dot(0, 2), strings.Repeat("é", 51), api.EARG), add(dot(0, 2), strings.Repeat("é", 50), api.OK))
	holds(t, "a text of two bytes a letter", s, "x 0.1; "+strings.Repeat("é", 50)+" 0.2")
}

func TestAddForAnotherText(t *testing.T) {
	s := of(t, add(dot(0, 1), "x", api.OK), add(dot(0, 1), "y", api.EEXIST), add(dot(0, 1), "", api.EEXIST))
	holds(t, "the same dot", s, "x 0.1")
	tell(t, s, remove("x", vec.Vec{1}, api.OK), add(dot(0, 1), "y", api.EEXIST))
	holds(t, "the same dot behind a Remove", s, "")
	// An Add that was nothing counts, one that was refused does not.
	tell(t, s, remove("x", vec.Vec{3}, api.OK), add(dot(0, 3), "x", api.OK), add(dot(0, 3), "y", api.EEXIST))
	holds(t, "a dot of an Add that was nothing", s, "")
	tell(t, s, add(dot(0, 4), long(101), api.EARG), add(dot(0, 4), "y", api.OK), add(dot(0, 3), "y", api.EEXIST))
	holds(t, "a dot that was refused", s, "y 0.4")
	tell(t, s, remove("y", vec.Vec{9}, api.OK), add(dot(0, 1), "y", api.EEXIST), add(dot(0, 3), "y", api.EEXIST))
	holds(t, "a dot of another text, of which both were removed", s, "")
	// Another text that a dot was refused for has no part in it.
	tell(t, s, add(dot(0, 1), "x", api.OK), add(dot(0, 3), "x", api.OK), add(dot(0, 4), "y", api.OK))
	holds(t, "the text that it was added for", s, "")
}

func TestAddOnceMore(t *testing.T) {
	s := of(t, add(dot(2, 7), "x", api.OK), add(dot(2, 7), "x", api.OK), add(dot(2, 7), "x", api.OK))
	holds(t, "the same dot for the same text", s, "x 2.7")
	tell(t, s, remove("x", vec.Vec{2: 7}, api.OK), add(dot(2, 7), "x", api.OK))
	holds(t, "a dot that was taken away", s, "")
	tell(t, s, add(dot(2, 8), "x", api.OK), add(dot(2, 7), "x", api.OK))
	holds(t, "a later dot", s, "x 2.8")
}

func TestAddSeenByRemove(t *testing.T) {
	s := of(t, remove("x", vec.Vec{0, 3}, api.OK))
	holds(t, "Remove of what is not there", s, "")
	tell(t, s, add(dot(1, 2), "x", api.OK), add(dot(1, 3), "x", api.OK))
	holds(t, "dots that an earlier Remove had seen", s, "")
	tell(t, s, add(dot(1, 1), "y", api.OK), add(dot(1, 4), "x", api.OK), add(dot(0, 1), "x", api.OK))
	holds(t, "dots that it had not seen", s, "x 0.1 1.4; y 1.1")
	// Of several Removes each one counts, the ones with less, too.
	tell(t, s, remove("x", vec.Vec{0, 1, 5}, api.OK), remove("x", vec.Vec{2: 2}, api.OK))
	tell(t, s, add(dot(2, 5), "x", api.OK), add(dot(2, 6), "x", api.OK), add(dot(2, 1), "x", api.OK))
	holds(t, "what either of several had seen", s, "x 0.1 1.4 2.6; y 1.1")
}

func TestRemoveSeen(t *testing.T) {
	for _, c := range []struct {
		seen vec.Vec
		want string
	}{
		{vec.Vec{}, "x 0.2 0.5 3.1 6.9; y 0.1"},
		{vec.Vec{1, most, most, 0, most, most, 8}, "x 0.2 0.5 3.1 6.9; y 0.1"},
		{vec.Vec{2}, "x 0.5 3.1 6.9; y 0.1"},
		{vec.Vec{4, 0, 0, 1}, "x 0.5 6.9; y 0.1"},
		{vec.Vec{5}, "x 3.1 6.9; y 0.1"},
		{vec.Vec{0, 0, 0, 7, 0, 0, 9}, "x 0.2 0.5; y 0.1"},
		{vec.Vec{5, 0, 0, 1, 0, 0, 8}, "x 6.9; y 0.1"},
		{vec.Vec{5, 0, 0, 1, 0, 0, 9}, "y 0.1"},
		{vec.Vec{most, most, most, most, most, most, most}, "y 0.1"},
	} {
		s := of(t, add(dot(6, 9), "x", api.OK), add(dot(0, 5), "x", api.OK), add(dot(0, 1), "y", api.OK))
		tell(t, s, add(dot(3, 1), "x", api.OK), add(dot(0, 2), "x", api.OK), remove("x", c.seen, api.OK))
		holds(t, fmt.Sprintf("Remove with %v", c.seen), s, c.want)
		tell(t, s, remove("x", c.seen, api.OK), remove("z", c.seen, api.OK), remove("", c.seen, api.OK))
		holds(t, fmt.Sprintf("Remove with %v once more, and of texts that are not there", c.seen), s, c.want)
	}
}

func TestRemoveEdges(t *testing.T) {
	for _, length := range []int{0, 1, 99, 100} {
		s := of(t, add(dot(0, 1), long(length), api.OK), remove(long(length), vec.Vec{1}, api.OK))
		holds(t, "Remove", s, "")
	}
	s := of(t, add(dot(5, most), "x", api.OK), add(dot(5, most-1), "x", api.OK), remove("x", vec.Vec{5: most - 1}, api.OK))
	holds(t, "Remove with one less than a clock may have", s, fmt.Sprintf("x 5.%d", most))
	tell(t, s, remove("x", vec.Vec{5: most}, api.OK))
	holds(t, "Remove with the most that a clock may have", s, "")
}

func TestRemoveRefused(t *testing.T) {
	s := of(t, add(dot(0, 1), "x", api.OK), add(dot(3, 1), "", api.OK))
	for _, x := range []string{"x", "y", "", long(100), long(101)} {
		for _, v := range wrongClocks() {
			tell(t, s, remove(x, v, api.EARG))
		}
	}
	for _, length := range []int{101, 102, 70000} {
		tell(t, s, remove(long(length), vec.Vec{}, api.EARG), remove(long(length), vec.Vec{9, 9, 9, 9}, api.EARG))
	}
	holds(t, "behind Removes that were refused", s, " 3.1; x 0.1")
	// Nor is anything that comes later kept away by them.
	tell(t, s, add(dot(1, 1), "x", api.OK), add(dot(6, 1), "y", api.OK), add(dot(2, 1), "", api.OK))
	holds(t, "later Adds", s, " 2.1 3.1; x 0.1 1.1; y 6.1")
}

func TestAddRefusedIsForgotten(t *testing.T) {
	s := of(t, add(dot(0, 1), long(101), api.EARG), add(dot(0, 1), "x", api.OK))
	tell(t, s, add(dot(0, 1), "y", api.EEXIST), remove("y", vec.Vec{1}, api.OK))
	holds(t, "a Remove of a text that a dot was refused for", s, "x 0.1")
}

func TestAllRises(t *testing.T) {
	texts := []string{"b", "ab", "", "a", "\xff", "é", "Z", "a\x00", "aa", "\x00", "{", "10", "9", "e", long(100), long(99)}
	s := orset.New()
	for i, x := range texts {
		tell(t, s, add(dot(i%7, int64(1+i)), x, api.OK))
		want := slices.Sorted(slices.Values(texts[:i+1]))
		if got := s.All(); !slices.Equal(got, want) {
			t.Errorf("P9.1: All of %d: %q, want %q", i+1, got, want)
		}
	}
	for i, x := range texts {
		if !s.Has(x) || !slices.Equal(s.Dots(x), []api.Dot{dot(i%7, int64(1+i))}) {
			t.Errorf("P9.1: Has(%q) %v, Dots %v", x, s.Has(x), s.Dots(x))
		}
	}
}

func TestDotsRise(t *testing.T) {
	row := []api.Dot{dot(0, 2), dot(0, 10), dot(1, 1), dot(2, 9), dot(2, most), dot(5, 3), dot(6, 1), dot(6, 2)}
	for turn := range len(row) {
		s := orset.New()
		for i := range row {
			tell(t, s, add(row[(i*5+turn)%len(row)], "x", api.OK))
		}
		if got := s.Dots("x"); !slices.Equal(got, row) {
			t.Errorf("P9.1: Dots: %v, want %v", got, row)
		}
		if len(s.All()) != 1 || len(s.Dots("y")) != 0 {
			t.Errorf("P9.1: All %v, Dots of another text %v", s.All(), s.Dots("y"))
		}
	}
}

// orders tells all orders of some numbers from 0 on.
func orders(count int) [][]int {
	if count == 0 {
		return [][]int{nil}
	}
	var all [][]int
	for _, order := range orders(count - 1) {
		for place := range count {
			all = append(all, slices.Insert(slices.Clone(order), place, count-1))
		}
	}
	return all
}

func TestOrderDoesNotMatter(t *testing.T) {
	steps := []step{
		add(dot(0, 1), "x", api.OK), add(dot(1, 1), "x", api.OK), remove("x", vec.Vec{1}, api.OK),
		add(dot(0, 2), "x", api.OK), remove("y", vec.Vec{0, 2}, api.OK), add(dot(1, 2), "y", api.OK), add(dot(2, 1), "y", api.OK),
	}
	const want = "x 0.2 1.1; y 2.1"
	first := of(t, steps...)
	holds(t, "in their order", first, want)
	for _, order := range orders(len(steps)) {
		s := orset.New()
		for _, i := range order {
			tell(t, s, steps[i])
		}
		holds(t, fmt.Sprint("in the order ", order), s, want)
		if !orset.Same(s, first) || string(s.Put(nil)) != string(first.Put(nil)) {
			t.Errorf("P9.1: in the order %v: not Same", order)
		}
	}
}
