package orset_test

import (
	"bytes"
	"fmt"
	"math/rand"
	"slices"
	"testing"

	"rostrum/api"
	"rostrum/orset"
	"rostrum/pack"
	"rostrum/vec"
)

// model is a set by the chapter's words: it keeps all that was ever told, and forgets nothing.
type model struct {
	added   map[api.Dot]string
	removed []removal
}

// removal is a Remove that was answered OK.
type removal struct {
	x    string
	seen vec.Vec
}

func newModel() *model { return &model{added: map[api.Dot]string{}} }

// isThere tells whether a dot is there for a text: whether it was added for it, and no Remove, earlier or later, had seen it.
func (m *model) isThere(d api.Dot, x string) bool {
	if text, ok := m.added[d]; !ok || text != x {
		return false
	}
	for _, one := range m.removed {
		if one.x == x && d.N <= one.seen[d.Rep] {
			return false
		}
	}
	return true
}

// add is Add by the chapter's words.
func (m *model) add(d api.Dot, x string) api.Errno {
	if d.Rep < 0 || d.Rep > 6 || d.N < 1 || d.N > most || len(x) > 100 {
		return api.EARG
	}
	if text, ok := m.added[d]; ok && text != x {
		return api.EEXIST
	}
	m.added[d] = x
	return api.OK
}

// remove is Remove by the chapter's words.
func (m *model) remove(x string, seen vec.Vec) api.Errno {
	for _, n := range seen {
		if n < 0 || n > most {
			return api.EARG
		}
	}
	if len(x) > 100 {
		return api.EARG
	}
	m.removed = append(m.removed, removal{x, seen})
	return api.OK
}

// there tells all texts and their dots.
func (m *model) there() ([]string, map[string][]api.Dot) {
	rows := map[string][]api.Dot{}
	for d, x := range m.added {
		if m.isThere(d, x) {
			rows[x] = append(rows[x], d)
		}
	}
	var texts []string
	for x, row := range rows {
		texts = append(texts, x)
		slices.SortFunc(row, func(a, b api.Dot) int {
			if a.Rep != b.Rep {
				return a.Rep - b.Rep
			}
			return int(a.N - b.N)
		})
	}
	slices.Sort(texts)
	return texts, rows
}

// bytes is Put by the chapter's words.
func (m *model) bytes() []byte {
	texts, rows := m.there()
	b := pack.Num(nil, int64(len(texts)))
	for _, x := range texts {
		b = pack.Num(pack.Text(b, x), int64(len(rows[x])))
		for _, d := range rows[x] {
			b = pack.Num(pack.Num(b, int64(d.Rep)), d.N)
		}
	}
	return b
}

// check holds a set against what it has by the model.
func check(t *testing.T, what string, s *orset.Set, m *model) {
	t.Helper()
	texts, rows := m.there()
	if got := s.All(); !slices.Equal(got, texts) {
		t.Fatalf("P9.1: %s: All %q, want %q", what, got, texts)
	}
	for _, x := range append(someTexts(), texts...) {
		if got := s.Dots(x); !slices.Equal(got, rows[x]) || s.Has(x) != (len(rows[x]) > 0) {
			t.Fatalf("P9.1: %s: Dots(%q) %v, Has %v, want %v", what, x, got, s.Has(x), rows[x])
		}
	}
	if got, want := s.Put(nil), m.bytes(); !bytes.Equal(got, want) {
		t.Fatalf("P9.1: %s: Put %x, want %x", what, got, want)
	}
}

func someTexts() []string { return []string{"", "a", "b", "ba", "\xff"} }

// walk tells a set and its model the same random calls.
type walk struct {
	rnd      *rand.Rand
	s        *orset.Set
	m        *model
	greatest int64
	stables  []vec.Vec        // what was dropped
	never    map[api.Dot]bool // what the caller of Drop has promised not to add
}

func newWalk(rnd *rand.Rand, greatest int64) *walk {
	return &walk{rnd: rnd, s: orset.New(), m: newModel(), greatest: greatest, never: map[api.Dot]bool{}}
}

func (w *walk) text() string {
	if w.rnd.Intn(40) == 0 {
		return long(101)
	}
	texts := someTexts()
	return texts[w.rnd.Intn(len(texts))]
}

func (w *walk) dot() api.Dot {
	if w.rnd.Intn(40) == 0 {
		return wrongDots()[w.rnd.Intn(len(wrongDots()))]
	}
	return dot(w.rnd.Intn(7), 1+w.rnd.Int63n(w.greatest))
}

func (w *walk) clock() vec.Vec {
	if w.rnd.Intn(40) == 0 {
		return wrongClocks()[w.rnd.Intn(len(wrongClocks()))]
	}
	var v vec.Vec
	for range w.rnd.Intn(4) {
		v[w.rnd.Intn(7)] = w.rnd.Int63n(w.greatest + 1)
	}
	return v
}

// add adds one, but not one of which the caller has promised that it does not come.
func (w *walk) add(t *testing.T) string {
	d, x := w.dot(), w.text()
	if w.never[d] {
		return "an Add that does not come"
	}
	what := fmt.Sprintf("Add(%v, %.10q)", d, x)
	if got, want := w.s.Add(d, x), w.m.add(d, x); got != want {
		t.Fatalf("P9.1: %s: %d, want %d", what, got, want)
	}
	return what
}

// remove takes a text away, but not by a clock of which the caller has promised that it does not come.
func (w *walk) remove(t *testing.T) string {
	x, seen := w.text(), w.clock()
	for _, v := range w.stables {
		if vec.Le(seen, v) && vec.Good(seen) {
			return "a Remove that does not come"
		}
	}
	what := fmt.Sprintf("Remove(%.10q, %v)", x, seen)
	if got, want := w.s.Remove(x, seen), w.m.remove(x, seen); got != want {
		t.Fatalf("P9.1: %s: %d, want %d", what, got, want)
	}
	return what
}

func (w *walk) drop() string {
	v := w.clock()
	w.s.Drop(v)
	w.stables = append(w.stables, v)
	for rep := range v {
		for n := int64(1); n <= min(v[rep], w.greatest); n++ {
			d := dot(rep, n)
			w.never[d] = w.never[d] || !w.m.isThere(d, w.m.added[d])
		}
	}
	return fmt.Sprintf("Drop(%v)", v)
}

// step does one call, a Drop in so many.
func (w *walk) step(t *testing.T, drops int) {
	what := ""
	switch n := w.rnd.Intn(100); {
	case n < drops:
		what = w.drop()
	case n < 35:
		what = w.remove(t)
	default:
		what = w.add(t)
	}
	check(t, what, w.s, w.m)
}

func TestRandomSteps(t *testing.T) {
	for seed := range int64(150) {
		rnd := rand.New(rand.NewSource(seed))
		w := newWalk(rnd, 2+rnd.Int63n(20))
		for range 150 {
			w.step(t, 0)
		}
	}
}

func TestRandomStepsAndDrops(t *testing.T) {
	for seed := range int64(300) {
		rnd := rand.New(rand.NewSource(seed))
		w := newWalk(rnd, 5+rnd.Int63n(60))
		for range 150 {
			w.step(t, 4)
		}
	}
}

// One set that drops now and then, and one that never does, tell the same.
func TestRandomSame(t *testing.T) {
	for seed := range int64(150) {
		rnd := rand.New(rand.NewSource(seed))
		one := newWalk(rnd, 5+rnd.Int63n(30))
		for range 60 {
			one.step(t, 5)
		}
		other := orset.New()
		for d, x := range one.m.added {
			other.Add(d, x)
		}
		for _, i := range rnd.Perm(len(one.m.removed)) {
			other.Remove(one.m.removed[i].x, one.m.removed[i].seen)
		}
		check(t, "the same in another order", other, one.m)
		if !orset.Same(one.s, other) || !orset.Same(other, one.s.Copy()) {
			t.Fatalf("P9.1: Same: %q, %q", show(one.s), show(other))
		}
		other.Add(dot(0, 1000), "q")
		if orset.Same(one.s, other) || orset.Same(other, one.s) {
			t.Fatalf("P9.1: Same of such as differ in one dot: %q, %q", show(one.s), show(other))
		}
	}
}

// Many texts of many dots are told in little time.
func TestMany(t *testing.T) {
	const count = 20000
	s := orset.New()
	for i := range count {
		if err := s.Add(dot(i%7, int64(1+i)), fmt.Sprint(i%1000)); err != api.OK {
			t.Fatalf("P9.1: Add: %d", err)
		}
	}
	for i := range 500 {
		if err := s.Remove(fmt.Sprint(i), vec.Vec{count, count, count, count, count, count, count}); err != api.OK {
			t.Fatalf("P9.1: Remove: %d", err)
		}
	}
	s.Drop(vec.Vec{count, count, count, count, count, count, count})
	if all := s.All(); len(all) != 500 || len(s.Dots(all[0])) != count/1000 || !orset.Same(s, s.Copy()) {
		t.Errorf("P9.1: All of many: %d", len(all))
	}
}
