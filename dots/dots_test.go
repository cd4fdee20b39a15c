package dots_test

import (
	"math"
	"slices"
	"testing"

	"rostrum/api"
	"rostrum/dots"
	"rostrum/pack"
	"rostrum/vec"
)

const most = int64(1099511627776) // 2^40, written out

// dot is a dot in few letters.
func dot(rep int, n int64) api.Dot { return api.Dot{Rep: rep, N: n} }

// wrongDots are dots that may not be.
func wrongDots() []api.Dot {
	var row []api.Dot
	for _, rep := range []int{math.MinInt, -7, -1, 7, 8, math.MaxInt} {
		for _, n := range []int64{-1, 0, 1, 2, most, most + 1} {
			row = append(row, dot(rep, n))
		}
	}
	for rep := range 7 {
		for _, n := range []int64{math.MinInt64, -most, -1, 0, most + 1, math.MaxInt64} {
			row = append(row, dot(rep, n))
		}
	}
	return row
}

// of is some dots, each of which must be new.
func of(t *testing.T, l ...api.Dot) *dots.Dots {
	t.Helper()
	s := dots.New()
	for _, d := range l {
		if was, err := s.Add(d); !was || err != api.OK {
			t.Fatalf("P8.1: Add(%v): %v, %d", d, was, err)
		}
	}
	return s
}

// from is the dots of a clock and of loose ones, read.
func from(t *testing.T, v vec.Vec, loose ...api.Dot) *dots.Dots {
	t.Helper()
	s := dots.Get(pack.Read(written(v, loose...)))
	if s == nil {
		t.Fatalf("P8.1: Get of %v, %d loose ones: nil", v, len(loose))
	}
	return s
}

// holds tells whether dots have just a clock and loose ones.
func holds(t *testing.T, what string, s *dots.Dots, v vec.Vec, loose ...api.Dot) {
	t.Helper()
	if s.Vec() != v || !slices.Equal(s.Loose(), loose) {
		t.Errorf("P8.1: %s: %v, %v, want %v, %v", what, s.Vec(), s.Loose(), v, loose)
	}
	all := int64(len(loose))
	for _, n := range v {
		all += n
	}
	if s.Len() != all {
		t.Errorf("P8.1: %s: Len %d, want %d", what, s.Len(), all)
	}
}

// addsTo tells whether Add answers as it must.
func addsTo(t *testing.T, s *dots.Dots, d api.Dot, want bool, wantErr api.Errno) {
	t.Helper()
	if was, err := s.Add(d); was != want || err != wantErr {
		t.Errorf("P8.1: Add(%v): %v, %d, want %v, %d", d, was, err, want, wantErr)
	}
}

// spread is count loose dots of a replica, with a gap ahead of each.
func spread(rep, count int) []api.Dot {
	var row []api.Dot
	for i := range count {
		row = append(row, dot(rep, int64(2*i+2)))
	}
	return row
}

func TestExample(t *testing.T) {
	s := dots.New()
	addsTo(t, s, dot(0, 2), true, api.OK)
	holds(t, "0.2", s, vec.Vec{}, dot(0, 2))
	addsTo(t, s, dot(0, 1), true, api.OK)
	holds(t, "0.2 and 0.1", s, vec.Vec{2})
}

func TestNew(t *testing.T) {
	s := dots.New()
	holds(t, "New", s, vec.Vec{})
	checkHas(t, s, model{}, 3)
	addsTo(t, s, dot(4, 1), true, api.OK)
	holds(t, "another New", dots.New(), vec.Vec{})
}

func TestAddWrong(t *testing.T) {
	v := vec.Vec{3, 0, 0, 0, 0, 0, 1}
	full := from(t, vec.Vec{}, spread(0, 1000)...)
	for _, d := range wrongDots() {
		s := from(t, v, dot(0, 5), dot(6, 9))
		for range 2 {
			addsTo(t, s, d, false, api.EARG)
			holds(t, "behind a wrong dot", s, v, dot(0, 5), dot(6, 9))
		}
		if s.Has(d) {
			t.Errorf("P8.1: Has(%v): true", d)
		}
		addsTo(t, full, d, false, api.EARG)
	}
	holds(t, "full behind wrong dots", full, vec.Vec{}, spread(0, 1000)...)
}

func TestAddAtTheEdges(t *testing.T) {
	for rep := range 7 {
		s := dots.New()
		addsTo(t, s, dot(rep, most), true, api.OK)
		addsTo(t, s, dot(rep, most), false, api.OK)
		addsTo(t, s, dot(rep, most+1), false, api.EARG)
		addsTo(t, s, dot(rep, 1), true, api.OK)
		addsTo(t, s, dot(rep, 1), false, api.OK)
		addsTo(t, s, dot(rep, 0), false, api.EARG)
		holds(t, "both ends", s, vecOf(rep, 1), dot(rep, most))
	}
}

// vecOf is a clock with one number.
func vecOf(rep int, n int64) vec.Vec {
	var v vec.Vec
	v[rep] = n
	return v
}

func TestAddTheLastOfAll(t *testing.T) {
	for rep := range 7 {
		s := from(t, vecOf(rep, most-1))
		addsTo(t, s, dot(rep, most), true, api.OK)
		holds(t, "2^40", s, vecOf(rep, most))
		addsTo(t, s, dot(rep, most), false, api.OK)
		addsTo(t, s, dot(rep, most+1), false, api.EARG)
		holds(t, "2^40, no more", s, vecOf(rep, most))
		s = from(t, vecOf(rep, most-2), dot(rep, most))
		addsTo(t, s, dot(rep, most-1), true, api.OK)
		holds(t, "a gap closed at 2^40", s, vecOf(rep, most))
	}
}

func TestAddInEachPlace(t *testing.T) {
	for rep := range 7 {
		s := dots.New()
		addsTo(t, s, dot(rep, 1), true, api.OK)
		holds(t, "the first", s, vecOf(rep, 1))
		addsTo(t, s, dot(rep, 3), true, api.OK)
		holds(t, "behind a gap", s, vecOf(rep, 1), dot(rep, 3))
		addsTo(t, s, dot(rep, 3), false, api.OK)
		addsTo(t, s, dot(rep, 1), false, api.OK)
		holds(t, "again", s, vecOf(rep, 1), dot(rep, 3))
		addsTo(t, s, dot(rep, 4), true, api.OK)
		holds(t, "behind a loose one", s, vecOf(rep, 1), dot(rep, 3), dot(rep, 4))
		addsTo(t, s, dot(rep, 6), true, api.OK)
		addsTo(t, s, dot(rep, 2), true, api.OK)
		holds(t, "a gap ahead of two", s, vecOf(rep, 4), dot(rep, 6))
		addsTo(t, s, dot(rep, 5), true, api.OK)
		holds(t, "a gap ahead of one", s, vecOf(rep, 6))
		addsTo(t, s, dot(rep, 4), false, api.OK)
		addsTo(t, s, dot(rep, 7), true, api.OK)
		holds(t, "the next", s, vecOf(rep, 7))
		checkHas(t, s, modelOf(dot(rep, 1), dot(rep, 2), dot(rep, 3), dot(rep, 4), dot(rep, 5), dot(rep, 6), dot(rep, 7)), 8)
	}
}

// TestAddAmongOthers closes a gap of one replica while others have loose ones of the same numbers.
func TestAddAmongOthers(t *testing.T) {
	for rep := range 7 {
		s, m := dots.New(), model{}
		for other := range 7 {
			for _, n := range []int64{3, 2, 5, 7} {
				checkAdd(t, s, m, dot(other, n))
			}
		}
		for _, n := range []int64{1, 4, 8} {
			checkAdd(t, s, m, dot(rep, n))
			check(t, "a gap among others", s, m)
		}
		if s.Vec() != vecOf(rep, 5) || len(s.Loose()) != 26 {
			t.Errorf("P8.1: a gap among others: %v, %v", s.Vec(), s.Loose())
		}
	}
}

func TestLooseInOrder(t *testing.T) {
	s := of(t, dot(6, 2), dot(1, 9), dot(0, most), dot(3, 4), dot(1, 3), dot(0, 10), dot(0, 9), dot(1, 100), dot(6, most), dot(6, 5))
	holds(t, "by Rep, then N", s, vec.Vec{}, dot(0, 9), dot(0, 10), dot(0, most), dot(1, 3), dot(1, 9), dot(1, 100), dot(3, 4), dot(6, 2), dot(6, 5), dot(6, most))
}

func TestHasAtTheEdges(t *testing.T) {
	s := from(t, vec.Vec{most, 2, 0, 0, 0, 0, most - 1}, dot(1, 4), dot(2, 2), dot(5, most))
	for _, d := range []api.Dot{dot(0, 1), dot(0, most), dot(1, 1), dot(1, 2), dot(1, 4), dot(2, 2), dot(5, most), dot(6, most-1)} {
		if !s.Has(d) {
			t.Errorf("P8.1: Has(%v): false", d)
		}
	}
	for _, d := range append(wrongDots(), dot(1, 3), dot(1, 5), dot(2, 1), dot(2, 3), dot(3, 1), dot(3, 2), dot(3, 4), dot(5, most-1), dot(6, most)) {
		if s.Has(d) {
			t.Errorf("P8.1: Has(%v): true", d)
		}
	}
}

func TestLen(t *testing.T) {
	for _, c := range []struct {
		s    *dots.Dots
		want int64
	}{
		{dots.New(), 0}, {of(t, dot(5, 1)), 1}, {of(t, dot(5, 2)), 1}, {of(t, dot(5, 2), dot(0, 1), dot(0, 3)), 3},
		{from(t, vec.Vec{1, 2, 3, 4, 5, 6, 7}), 28}, {from(t, vec.Vec{1, 2, 3, 4, 5, 6, 7}, dot(0, 3), dot(6, most)), 30},
		{from(t, vec.Vec{most, most, most, most, most, most, most}), 7 * most},
		{from(t, vec.Vec{most - 2, most, most, most, most, most, most}, dot(0, most)), 7*most - 1},
		{from(t, vec.Vec{}, spread(3, 1000)...), 1000},
	} {
		if got := c.s.Len(); got != c.want {
			t.Errorf("P8.1: Len of %v, %d loose ones: %d, want %d", c.s.Vec(), len(c.s.Loose()), got, c.want)
		}
	}
}

// atLimit is count loose ones of replica 2, with dots of replica 1 without a gap.
func atLimit(t *testing.T, count int) *dots.Dots {
	t.Helper()
	s := dots.New()
	for _, d := range append(spread(2, count), dot(1, 1), dot(1, 2)) {
		addsTo(t, s, d, true, api.OK)
	}
	return s
}

func TestAddAtTheLimit(t *testing.T) {
	row := spread(2, 1000)
	s := atLimit(t, 999)
	holds(t, "999 loose ones", s, vecOf(1, 2), row[:999]...)
	addsTo(t, s, row[999], true, api.OK)
	holds(t, "1000 loose ones", s, vecOf(1, 2), row...)
	for _, d := range []api.Dot{dot(2, 2002), dot(2, 1999), dot(2, 3), dot(0, 2), dot(1, 4), dot(6, most), dot(3, 7)} {
		addsTo(t, s, d, false, api.ELIMIT)
		if s.Has(d) {
			t.Errorf("P8.1: %v is there though it was refused", d)
		}
	}
	holds(t, "a dot too many", s, vecOf(1, 2), row...)
	for _, d := range []api.Dot{dot(2, 2), dot(2, 2000), dot(2, 1000), dot(1, 1), dot(1, 2)} {
		addsTo(t, s, d, false, api.OK)
	}
	holds(t, "what is there already", s, vecOf(1, 2), row...)
}

func TestAddNextAtTheLimit(t *testing.T) {
	row := spread(2, 1000)
	for rep := range 7 {
		s := atLimit(t, 1000)
		v, loose := vecOf(1, 2), row
		v[rep]++
		if rep == 2 {
			v[rep], loose = 2, row[1:]
		}
		addsTo(t, s, dot(rep, s.Vec()[rep]+1), true, api.OK)
		holds(t, "the next one at the limit", s, v, loose...)
		last := dot(2, 2002)
		if rep != 2 {
			addsTo(t, s, last, false, api.ELIMIT)
			continue
		}
		addsTo(t, s, last, true, api.OK)
		addsTo(t, s, dot(2, 2004), false, api.ELIMIT)
		holds(t, "room for one more", s, v, append(loose[:len(loose):len(loose)], last)...)
	}
}

func TestAddClosesAll(t *testing.T) {
	s := dots.New()
	for n := int64(1001); n > 1; n-- {
		addsTo(t, s, dot(4, n), true, api.OK)
	}
	addsTo(t, s, dot(4, 1002), false, api.ELIMIT)
	if len(s.Loose()) != 1000 {
		t.Errorf("P8.1: %d loose ones", len(s.Loose()))
	}
	addsTo(t, s, dot(4, 1), true, api.OK)
	holds(t, "a gap ahead of a thousand", s, vecOf(4, 1001))
	for _, d := range spread(0, 1000) {
		addsTo(t, s, d, true, api.OK)
	}
	addsTo(t, s, dot(5, 2), false, api.ELIMIT)
	holds(t, "a thousand again", s, vecOf(4, 1001), spread(0, 1000)...)
}

func TestMergeByHand(t *testing.T) {
	for i, c := range []struct {
		a, b  *dots.Dots
		v     vec.Vec
		loose []api.Dot
	}{
		{dots.New(), dots.New(), vec.Vec{}, nil},
		{of(t, dot(3, 1), dot(3, 4)), dots.New(), vecOf(3, 1), []api.Dot{dot(3, 4)}},
		{of(t, dot(0, 2)), of(t, dot(0, 1)), vecOf(0, 2), nil},
		{of(t, dot(0, 2), dot(0, 4)), of(t, dot(0, 3), dot(0, 5)), vec.Vec{}, []api.Dot{dot(0, 2), dot(0, 3), dot(0, 4), dot(0, 5)}},
		{of(t, dot(0, 1), dot(0, 3), dot(0, 5)), of(t, dot(0, 2), dot(0, 4), dot(0, 6)), vecOf(0, 6), nil},
		{of(t, dot(0, 1), dot(0, 3), dot(0, 5)), of(t, dot(0, 2), dot(0, 6)), vecOf(0, 3), []api.Dot{dot(0, 5), dot(0, 6)}},
		{from(t, vec.Vec{5}, dot(1, 3)), from(t, vec.Vec{1, 2}, dot(0, 4), dot(0, 6)), vec.Vec{6, 3}, nil},
		{from(t, vec.Vec{5}), from(t, vec.Vec{}, dot(0, 3), dot(0, 4), dot(0, 5)), vec.Vec{5}, nil},
		{of(t, dot(6, 2), dot(0, 2)), of(t, dot(0, 2), dot(6, 3), dot(3, 9)), vec.Vec{}, []api.Dot{dot(0, 2), dot(3, 9), dot(6, 2), dot(6, 3)}},
		{from(t, vecOf(6, most-2), dot(6, most)), from(t, vecOf(6, most-1)), vecOf(6, most), nil},
		{from(t, vec.Vec{most, 0, 1}), from(t, vec.Vec{1, most, 1}), vec.Vec{most, most, 1}, nil},
	} {
		for _, turned := range []bool{false, true} {
			a, b := from(t, c.a.Vec(), c.a.Loose()...), c.b
			if turned {
				a, b = from(t, c.b.Vec(), c.b.Loose()...), c.a
			}
			v, loose := b.Vec(), b.Loose()
			for range 2 {
				if err := a.Merge(b); err != api.OK {
					t.Errorf("P8.1: Merge of number %d: %d", i, err)
				}
				holds(t, "Merge", a, c.v, c.loose...)
				holds(t, "what was merged", b, v, loose...)
			}
			if err := a.Merge(a); err != api.OK {
				t.Errorf("P8.1: Merge of number %d with itself: %d", i, err)
			}
			holds(t, "Merge with itself", a, c.v, c.loose...)
		}
	}
}

// checkMerge merges two to a clock and loose ones, or is refused, when nothing may be changed.
func checkMerge(t *testing.T, what string, a, b *dots.Dots, want api.Errno, v vec.Vec, loose ...api.Dot) {
	t.Helper()
	va, la, vb, lb := a.Vec(), a.Loose(), b.Vec(), b.Loose()
	if err := a.Merge(b); err != want {
		t.Errorf("P8.1: Merge, %s: %d, want %d", what, err, want)
	}
	if want != api.OK {
		v, loose = va, la
	}
	holds(t, "Merge, "+what, a, v, loose...)
	if a != b {
		holds(t, "what was merged, "+what, b, vb, lb...)
	}
}

func TestMergeAtTheLimit(t *testing.T) {
	row := slices.Concat(spread(1, 500), spread(4, 500))
	a, b := of(t, spread(1, 500)...), of(t, spread(4, 499)...)
	checkMerge(t, "999", a, b, api.OK, vec.Vec{}, row[:999]...)
	checkMerge(t, "1000", a, of(t, row[999]), api.OK, vec.Vec{}, row...)
	checkMerge(t, "1000 and none", a, dots.New(), api.OK, vec.Vec{}, row...)
	checkMerge(t, "none and 1000", dots.New(), a, api.OK, vec.Vec{}, row...)
	checkMerge(t, "1000 with itself", a, a, api.OK, vec.Vec{}, row...)
	checkMerge(t, "1000 and some of these", a, b, api.OK, vec.Vec{}, row...)
	checkMerge(t, "1001", a, of(t, dot(0, 2)), api.ELIMIT, vec.Vec{})
	checkMerge(t, "1001 the other way", of(t, dot(0, 2)), a, api.ELIMIT, vec.Vec{})
	checkMerge(t, "1001, of one replica", a, of(t, dot(4, 2000)), api.ELIMIT, vec.Vec{})
	checkMerge(t, "1001, a clock too", a, of(t, dot(0, 1), dot(0, 3)), api.ELIMIT, vec.Vec{})
	checkMerge(t, "2000", of(t, spread(2, 1000)...), of(t, spread(3, 1000)...), api.ELIMIT, vec.Vec{})
	checkMerge(t, "1000 and a clock", a, of(t, dot(0, 1), dot(0, 2)), api.OK, vec.Vec{2}, row...)
}

// TestMergeClosesGapsAtTheLimit: only what is loose of both together counts, not what was loose of each.
func TestMergeClosesGapsAtTheLimit(t *testing.T) {
	var odd []api.Dot
	for n := range int64(1000) {
		odd = append(odd, dot(2, 2*n+1))
	}
	even := spread(2, 1000)
	checkMerge(t, "a thousand and a thousand close all", of(t, even...), of(t, odd...), api.OK, vecOf(2, 2000))
	checkMerge(t, "and the other way", of(t, odd...), of(t, even...), api.OK, vecOf(2, 2000))
	a, b := of(t, even...), of(t, slices.Concat(odd[:1], spread(3, 2))...)
	checkMerge(t, "one gap closed, two come", a, b, api.ELIMIT, vec.Vec{})
	checkMerge(t, "one gap closed, one comes", a, of(t, dot(2, 1), dot(3, 2)), api.OK, vecOf(2, 2), append(even[1:1000:1000], dot(3, 2))...)
	checkMerge(t, "a clock ahead of all loose ones", from(t, vecOf(2, 2000)), of(t, even...), api.OK, vecOf(2, 2000))
	checkMerge(t, "a clock ahead of most loose ones", from(t, vecOf(2, 1997), spread(5, 998)...), of(t, even...), api.OK, vecOf(2, 1998), append([]api.Dot{dot(2, 2000)}, spread(5, 998)...)...)
	checkMerge(t, "a clock ahead of too few", from(t, vecOf(2, 1994), spread(5, 998)...), of(t, even...), api.ELIMIT, vec.Vec{})
}

// TestMergeKeepsNothing changes one of two that were merged, and looks at the other one.
func TestMergeKeepsNothing(t *testing.T) {
	for _, l := range [][]api.Dot{{dot(0, 2)}, {dot(0, 2), dot(0, 4), dot(3, 3)}, {dot(0, 1), dot(5, 4), dot(5, 6)}} {
		a, b := dots.New(), of(t, l...)
		a.Merge(b)
		v, loose := a.Vec(), a.Loose()
		for _, d := range []api.Dot{dot(0, 1), dot(0, 3), dot(0, 6), dot(5, 2), dot(6, 9)} {
			b.Add(d)
		}
		holds(t, "behind Adds to what was merged", a, v, loose...)
		v, loose = b.Vec(), b.Loose()
		for _, d := range []api.Dot{dot(0, 8), dot(0, 1), dot(4, 2), dot(5, 1)} {
			a.Add(d)
		}
		holds(t, "what was merged, behind Adds", b, v, loose...)
	}
}

func TestSame(t *testing.T) {
	row := []api.Dot{dot(0, 1), dot(0, 2), dot(0, 4), dot(3, 3), dot(6, 1), dot(6, most)}
	told := of(t, row...)
	for first := range row {
		for second := range row {
			other := slices.Clone(row)
			other[first], other[second] = other[second], other[first]
			if s := of(t, other...); !dots.Same(s, told) || !dots.Same(told, s) {
				t.Errorf("P8.1: Same of %v and of %v: false", other, row)
			}
		}
		fewer := of(t, slices.Delete(slices.Clone(row), first, first+1)...)
		if dots.Same(fewer, told) || dots.Same(told, fewer) {
			t.Errorf("P8.1: Same without %v: true", row[first])
		}
	}
	if !dots.Same(told, told) || !dots.Same(dots.New(), dots.New()) {
		t.Errorf("P8.1: Same of one, or of two empty ones: false")
	}
}

func TestSameOfOthers(t *testing.T) {
	all := []*dots.Dots{
		dots.New(), of(t, dot(0, 1)), of(t, dot(0, 2)), of(t, dot(0, 3)), of(t, dot(1, 1)), of(t, dot(1, 2)), of(t, dot(6, 1)), of(t, dot(6, most)),
		of(t, dot(0, 1), dot(0, 2)), of(t, dot(0, 1), dot(0, 3)), of(t, dot(0, 2), dot(0, 3)), of(t, dot(0, 2), dot(1, 2)), of(t, dot(0, 2), dot(1, 1)),
	}
	for i, a := range all {
		for j, b := range all {
			if dots.Same(a, b) != (i == j) {
				t.Errorf("P8.1: Same of number %d and number %d: %v", i, j, i != j)
			}
		}
	}
}

func TestAnswersAreNew(t *testing.T) {
	s := of(t, dot(0, 1), dot(0, 3), dot(5, 4))
	want := []api.Dot{dot(0, 3), dot(5, 4)}
	loose := s.Loose()
	loose = loose[:cap(loose)]
	for i := range loose {
		loose[i] = dot(6, 77)
	}
	v := s.Vec()
	v[0] = 9
	holds(t, "behind changes to what was told", s, vecOf(0, 1), want...)
	addsTo(t, s, dot(5, 9), true, api.OK)
	for _, d := range loose {
		if d != dot(6, 77) {
			t.Errorf("R4: Loose's answer is kept")
		}
	}
	loose = s.Loose()
	addsTo(t, s, dot(0, 2), true, api.OK)
	addsTo(t, s, dot(1, 2), true, api.OK)
	if !slices.Equal(loose, append(want, dot(5, 9))) {
		t.Errorf("R4: an Add changes what Loose told: %v", loose)
	}
}
