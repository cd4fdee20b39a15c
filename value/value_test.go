package value_test

import (
	"fmt"
	"math"
	"runtime"
	"strings"
	"testing"

	"rostrum/api"
	"rostrum/last"
	"rostrum/orset"
	"rostrum/tally"
	"rostrum/value"
)

func dot(rep int, n int64) api.Dot { return api.Dot{Rep: rep, N: n} }

// set is one to which these texts were added, one behind the other.
func set(t *testing.T, texts ...string) *orset.Set {
	t.Helper()
	s := orset.New()
	for i, x := range texts {
		if err := s.Add(dot(0, int64(i+1)), x); err != api.OK {
			t.Fatalf("P9.1: Add of %q: %d", x, err)
		}
	}
	return s
}

// number is one to which these were added, by one replica after the other.
func number(t *testing.T, counts ...int64) *tally.Tally {
	t.Helper()
	n := tally.New()
	for i, by := range counts {
		if err := n.Add(i%api.MaxReps, by); err != api.OK {
			t.Fatalf("P10.1: Add of %d: %d", by, err)
		}
	}
	return n
}

// text is one to which these were written, each behind the one ahead of it.
func text(t *testing.T, texts ...string) *last.Last {
	t.Helper()
	l := last.New()
	for i, x := range texts {
		if did, err := l.Write(x, int64(i), dot(3, 9)); !did || err != api.OK {
			t.Fatalf("P11.1: Write of %q: %v, %d", x, did, err)
		}
	}
	return l
}

// within is what the three As.. tell of a value.
type within struct {
	s   *orset.Set
	n   *tally.Tally
	l   *last.Last
	oks [3]bool
}

// ask asks all three.
func ask(v value.Value) within {
	var w within
	w.s, w.oks[0] = value.AsSet(v)
	w.n, w.oks[1] = value.AsNumber(v)
	w.l, w.oks[2] = value.AsText(v)
	return w
}

// panicOf is what MustSet panics with, or nil.
func panicOf(v value.Value) (why any) {
	defer func() { why = recover() }()
	value.MustSet(v)
	return nil
}

// isNothing tells whether a value has nothing within, whoever asks.
func isNothing(t *testing.T, what string, v value.Value) {
	t.Helper()
	if got := ask(v); got != (within{}) {
		t.Errorf("P12.1: As.. of %s: %+v", what, got)
	}
	if got := value.Show(v); got != "" {
		t.Errorf("P12.1: Show of %s: %q", what, got)
	}
	for _, ahead := range aheads() {
		if got := value.Put([]byte(ahead), v); string(got) != ahead {
			t.Errorf("P12.1: Put of %s behind %.10q: %q", what, ahead, got)
		}
	}
	if got := value.Put(nil, v); len(got) != 0 {
		t.Errorf("P12.1: Put of %s behind nil: %q", what, got)
	}
}

// noSet tells whether MustSet panics as the language does.
func noSet(t *testing.T, what string, v value.Value) {
	t.Helper()
	why := panicOf(v)
	if _, ok := why.(runtime.Error); !ok {
		t.Errorf("P12.1: MustSet of %s: panic %v, which is no run-time error", what, why)
	}
	if _, ok := why.(*runtime.TypeAssertionError); !ok {
		t.Errorf("P12.1: MustSet of %s: panic %v, which is not of a type assertion", what, why)
	}
}

// aheads are bytes that something is put behind.
func aheads() []string {
	return []string{"", "x", "ab", "\x00", "\x80", "\xff\xff", "\x02", strings.Repeat("v", 300)}
}

func TestKind(t *testing.T) {
	for want, list := range map[int][]value.Value{
		1: {value.Set{}, value.Set{S: orset.New()}, value.Set{S: set(t, "a")}, &value.Set{}},
		2: {value.Number{}, value.Number{T: tally.New()}, value.Number{T: number(t, 5)}, &value.Number{}},
		3: {value.Text{}, value.Text{L: last.New()}, value.Text{L: text(t, "a")}, &value.Text{}},
	} {
		for i, v := range list {
			if got := v.Kind(); got != want {
				t.Errorf("P12.1: Kind of number %d: %d, want %d", i, got, want)
			}
		}
	}
}

func TestNew(t *testing.T) {
	one, err := value.New(1)
	if s, ok := one.(value.Set); err != api.OK || !ok || s.S == nil || !orset.Same(s.S, orset.New()) || len(s.S.All()) != 0 {
		t.Errorf("P12.1: New(1): %v, %d", one, err)
	}
	two, err := value.New(2)
	if n, ok := two.(value.Number); err != api.OK || !ok || n.T == nil || !tally.Same(n.T, tally.New()) || n.T.Value() != 0 {
		t.Errorf("P12.1: New(2): %v, %d", two, err)
	}
	three, err := value.New(3)
	if l, ok := three.(value.Text); err != api.OK || !ok || l.L == nil || !last.Same(l.L, last.New()) {
		t.Errorf("P12.1: New(3): %v, %d", three, err)
	}
	for kind, v := range map[int]value.Value{1: one, 2: two, 3: three} {
		if v.Kind() != kind {
			t.Errorf("P12.1: Kind of New(%d): %d", kind, v.Kind())
		}
	}
}

func TestNewOfNone(t *testing.T) {
	for _, kind := range []int{
		0, -1, -2, -3, 4, 5, 6, 7, 10, 100, math.MinInt, math.MinInt + 1, math.MaxInt - 1, math.MaxInt,
		1<<8 + 1, 1<<8 + 2, 1<<8 + 3, 1<<16 + 1, 1<<32 + 1, 1<<32 + 2, 1<<32 + 3, math.MinInt + 1<<8 + 3,
	} {
		if v, err := value.New(kind); v != nil || err != api.EARG {
			t.Errorf("P12.1: New(%d): %v, %d", kind, v, err)
		}
	}
}

// Two that New made share nothing.
func TestNewApart(t *testing.T) {
	var made [4][2]value.Value
	for kind := 1; kind <= 3; kind++ {
		for i := range 2 {
			v, err := value.New(kind)
			if err != api.OK {
				t.Fatalf("P12.1: New(%d): %d", kind, err)
			}
			made[kind][i] = v
		}
	}
	s, _ := value.AsSet(made[1][0])
	n, _ := value.AsNumber(made[2][0])
	l, _ := value.AsText(made[3][0])
	s.Add(dot(0, 1), "a")
	n.Add(0, 5)
	l.Write("b", 5, dot(3, 9))
	for kind, want := range map[int][2]string{1: {"a", ""}, 2: {"5", "0"}, 3: {"b", ""}} {
		for i, w := range want {
			if got := value.Show(made[kind][i]); got != w {
				t.Errorf("P12.1: two of New(%d), one of which was changed: number %d shows %q, want %q", kind, i, got, w)
			}
		}
		later, err := value.New(kind)
		if err != api.OK || value.Show(later) != want[1] {
			t.Errorf("R5: a later New(%d): %q, %d", kind, value.Show(later), err)
		}
	}
}

// What is handed back is the very object within.
func TestAs(t *testing.T) {
	for _, s := range []*orset.Set{orset.New(), set(t, "a", "b")} {
		if got := ask(value.Set{S: s}); got != (within{s: s, oks: [3]bool{true, false, false}}) {
			t.Errorf("P12.1: As.. of a Set: %+v", got)
		}
		if got := value.MustSet(value.Set{S: s}); got != s {
			t.Errorf("P12.1: MustSet of a Set is another one")
		}
	}
	for _, n := range []*tally.Tally{tally.New(), number(t, 5, -2)} {
		if got := ask(value.Number{T: n}); got != (within{n: n, oks: [3]bool{false, true, false}}) {
			t.Errorf("P12.1: As.. of a Number: %+v", got)
		}
	}
	for _, l := range []*last.Last{last.New(), text(t, "a")} {
		if got := ask(value.Text{L: l}); got != (within{l: l, oks: [3]bool{false, false, true}}) {
			t.Errorf("P12.1: As.. of a Text: %+v", got)
		}
	}
}

// What is done to what is handed back is done to the value.
func TestAsIsWithin(t *testing.T) {
	one, _ := value.New(1)
	two, _ := value.New(2)
	three, _ := value.New(3)
	s, _ := value.AsSet(one)
	n, _ := value.AsNumber(two)
	l, _ := value.AsText(three)
	s.Add(dot(0, 1), "b")
	value.MustSet(one).Add(dot(0, 2), "a")
	n.Add(6, -5)
	l.Write("c", 5, dot(3, 9))
	for want, v := range map[string]value.Value{"a,b": one, "-5": two, "c": three} {
		if got := value.Show(v); got != want {
			t.Errorf("P12.1: behind what was done to what is within: %q, want %q", got, want)
		}
	}
}

func TestNothingWithin(t *testing.T) {
	for what, v := range map[string]value.Value{
		"nil": nil, "a Set of nil": value.Set{}, "a Number of nil": value.Number{}, "a Text of nil": value.Text{},
	} {
		isNothing(t, what, v)
	}
}

func TestMustSet(t *testing.T) {
	if why := panicOf(value.Set{}); why != nil {
		t.Fatalf("P12.1: MustSet of a Set of nil: panic %v", why)
	}
	if s := value.MustSet(value.Set{}); s != nil {
		t.Errorf("P12.1: MustSet of a Set of nil: %v", s)
	}
	for what, v := range map[string]value.Value{
		"nil":             nil,
		"a Number":        value.Number{T: number(t, 5)},
		"a Number of nil": value.Number{},
		"a Text":          value.Text{L: text(t, "a")},
		"a Text of nil":   value.Text{},
	} {
		noSet(t, what, v)
	}
}

// alien has a Kind, but is of another package.
type alien int

func (a alien) Kind() int { return int(a) }

// The same fields don't make it a Set, a Number, a Text.
type (
	alienSet    struct{ S *orset.Set }
	alienNumber struct{ T *tally.Tally }
	alienText   struct{ L *last.Last }
)

func (alienSet) Kind() int    { return 1 }
func (alienNumber) Kind() int { return 2 }
func (alienText) Kind() int   { return 3 }

// Nor does it to have one of them within.
type (
	outerSet    struct{ value.Set }
	outerNumber struct{ value.Number }
	outerText   struct{ value.Text }
	outer       struct{ value.Value }
)

// loud can't tell its Kind.
type loud struct{}

func (loud) Kind() int { panic("nobody is to ask") }

func TestAliens(t *testing.T) {
	aliens := []value.Value{loud{}, (*value.Set)(nil), (*value.Number)(nil), (*value.Text)(nil), outer{}}
	for kind := -1; kind <= 4; kind++ {
		aliens = append(aliens, alien(kind))
	}
	s, n, l := value.Set{S: set(t, "a")}, value.Number{T: number(t, 5)}, value.Text{L: text(t, "b")}
	aliens = append(aliens,
		alienSet(s), alienNumber(n), alienText(l),
		outerSet{s}, outerNumber{n}, outerText{l},
		outer{s}, outer{n}, outer{l}, &outer{s},
		&s, &n, &l,
	)
	for i, v := range aliens {
		what := fmt.Sprintf("number %d, a %T", i, v)
		isNothing(t, what, v)
		noSet(t, what, v)
	}
}
