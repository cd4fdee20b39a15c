package dots_test

import (
	"bytes"
	"math/rand"
	"slices"
	"testing"

	"rostrum/api"
	"rostrum/dots"
	"rostrum/pack"
	"rostrum/vec"
)

// model is which dots were seen by the chapter's words: one by one, and not gathered.
type model map[api.Dot]bool

// modelOf is the model of some dots.
func modelOf(l ...api.Dot) model {
	m := model{}
	for _, d := range l {
		m[d] = true
	}
	return m
}

// vec counts how many there are without a gap.
func (m model) vec() vec.Vec {
	var v vec.Vec
	for rep := range v {
		for m[api.Dot{Rep: rep, N: v[rep] + 1}] {
			v[rep]++
		}
	}
	return v
}

// loose tells the others.
func (m model) loose() []api.Dot {
	v := m.vec()
	var row []api.Dot
	for d := range m {
		if d.N > v[d.Rep] {
			row = append(row, d)
		}
	}
	slices.SortFunc(row, func(a, b api.Dot) int {
		if a.Rep != b.Rep {
			return a.Rep - b.Rep
		}
		return int(a.N - b.N)
	})
	return row
}

// add is Add by the chapter's words.
func (m model) add(d api.Dot) (bool, api.Errno) {
	switch {
	case d.Rep < 0 || d.Rep > 6 || d.N < 1 || d.N > most:
		return false, api.EARG
	case m[d]:
		return false, api.OK
	case d.N != m.vec()[d.Rep]+1 && len(m.loose()) >= 1000:
		return false, api.ELIMIT
	}
	m[d] = true
	return true, api.OK
}

// with is all of both.
func (m model) with(o model) model {
	both := model{}
	for _, one := range []model{m, o} {
		for d := range one {
			both[d] = true
		}
	}
	return both
}

// bytes is Put by the chapter's words.
func (m model) bytes() []byte { return written(m.vec(), m.loose()...) }

// written is what Put writes of a clock and of loose dots, whether they may be or not.
func written(v vec.Vec, loose ...api.Dot) []byte {
	return counted(v, int64(len(loose)), loose...)
}

// counted is what Put writes, with a count that may be another one than there are loose dots.
func counted(v vec.Vec, count int64, loose ...api.Dot) []byte {
	var b []byte
	for _, n := range v {
		b = append(b, pack.Num(nil, n)...)
	}
	b = append(b, pack.Num(nil, count)...)
	for _, d := range loose {
		b = append(b, pack.Num(nil, int64(d.Rep))...)
		b = append(b, pack.Num(nil, d.N)...)
	}
	return b
}

// check holds dots against what they have by the model.
func check(t *testing.T, what string, s *dots.Dots, m model) {
	t.Helper()
	if s.Vec() != m.vec() {
		t.Fatalf("P8.1: %s: Vec %v, want %v", what, s.Vec(), m.vec())
	}
	if got, want := s.Loose(), m.loose(); !slices.Equal(got, want) {
		t.Fatalf("P8.1: %s: Loose %v, want %v", what, got, want)
	}
	if s.Len() != int64(len(m)) {
		t.Fatalf("P8.1: %s: Len %d, want %d", what, s.Len(), len(m))
	}
	if got, want := s.Put(nil), m.bytes(); !bytes.Equal(got, want) {
		t.Fatalf("P8.1: %s: Put % x, want % x", what, got, want)
	}
}

// checkHas asks for each dot in and about a small square.
func checkHas(t *testing.T, s *dots.Dots, m model, greatest int64) {
	t.Helper()
	for rep := -1; rep <= 7; rep++ {
		for n := int64(-1); n <= greatest+2; n++ {
			d := api.Dot{Rep: rep, N: n}
			if s.Has(d) != m[d] {
				t.Fatalf("P8.1: Has(%v): %v", d, s.Has(d))
			}
		}
	}
}

// randomDot is a dot of a small square, and now and then one that may not be.
func randomDot(rnd *rand.Rand, greatest int64) api.Dot {
	if rnd.Intn(20) == 0 {
		return wrongDots()[rnd.Intn(len(wrongDots()))]
	}
	return api.Dot{Rep: rnd.Intn(7), N: 1 + rnd.Int63n(greatest)}
}

// randomPair is dots with their model.
func randomPair(t *testing.T, rnd *rand.Rand, steps int, greatest int64) (*dots.Dots, model) {
	s, m := dots.New(), model{}
	for range steps {
		d := randomDot(rnd, greatest)
		checkAdd(t, s, m, d)
	}
	return s, m
}

// checkAdd adds one to both and holds their answers against each other.
func checkAdd(t *testing.T, s *dots.Dots, m model, d api.Dot) {
	t.Helper()
	want, wantErr := m.add(d)
	got, err := s.Add(d)
	if got != want || err != wantErr {
		t.Fatalf("P8.1: Add(%v): %v, %d, want %v, %d", d, got, err, want, wantErr)
	}
	if s.Has(d) != m[d] {
		t.Fatalf("P8.1: Has(%v) behind its Add: %v", d, s.Has(d))
	}
}

func TestRandomAdds(t *testing.T) {
	for seed := range int64(60) {
		rnd := rand.New(rand.NewSource(seed))
		greatest := 2 + rnd.Int63n(30)
		s, m := dots.New(), model{}
		for range 250 {
			checkAdd(t, s, m, randomDot(rnd, greatest))
			check(t, "random adds", s, m)
		}
		checkHas(t, s, m, greatest)
	}
}

func TestRandomMerges(t *testing.T) {
	for seed := range int64(400) {
		rnd := rand.New(rand.NewSource(seed))
		greatest := 2 + rnd.Int63n(25)
		a, ma := randomPair(t, rnd, rnd.Intn(80), greatest)
		b, mb := randomPair(t, rnd, rnd.Intn(80), greatest)
		if err := a.Merge(b); err != api.OK {
			t.Fatalf("P8.1: Merge: %d", err)
		}
		both := ma.with(mb)
		check(t, "Merge", a, both)
		check(t, "what was merged", b, mb)
		checkHas(t, a, both, greatest)
		if b.Merge(a) != api.OK || !dots.Same(a, b) {
			t.Fatalf("P8.1: Merge the other way: %v and %v", a.Loose(), b.Loose())
		}
		checkAdd(t, a, both, randomDot(rnd, greatest))
		check(t, "Merge, then Add", a, both)
	}
}

func TestRandomMergesAboutTheLimit(t *testing.T) {
	refused, done := 0, 0
	for seed := range int64(30) {
		rnd := rand.New(rand.NewSource(seed))
		greatest := 400 + rnd.Int63n(1200)
		a, ma := randomPair(t, rnd, 700, greatest)
		b, mb := randomPair(t, rnd, 500, greatest)
		both, want := ma.with(mb), api.OK
		if len(both.loose()) > 1000 {
			want = api.ELIMIT
			both = ma
			refused++
		} else {
			done++
		}
		if err := a.Merge(b); err != want {
			t.Fatalf("P8.1: Merge about the limit: %d, want %d", err, want)
		}
		check(t, "Merge about the limit", a, both)
		check(t, "what was merged about the limit", b, mb)
	}
	if refused < 5 || done < 5 {
		t.Errorf("the random merges miss a side: %d refused, %d done", refused, done)
	}
}

func TestRandomBytes(t *testing.T) {
	for seed := range int64(300) {
		rnd := rand.New(rand.NewSource(seed))
		s, m := randomPair(t, rnd, rnd.Intn(60), 2+rnd.Int63n(20))
		r := pack.Read(s.Put(nil))
		got := dots.Get(r)
		if got == nil || !r.End() || !dots.Same(got, s) || !dots.Same(s, got) {
			t.Fatalf("P8.1: Get of what Put wrote: %v", m.loose())
		}
		check(t, "Get", got, m)
		checkAdd(t, got, m, randomDot(rnd, 20))
		check(t, "Get, then Add", got, m)
	}
}

// TestRandomWrongBytes changes, takes and puts bytes: what Get still takes must be what Put writes of it.
func TestRandomWrongBytes(t *testing.T) {
	rnd := rand.New(rand.NewSource(8))
	taken, refused := 0, 0
	for range 20000 {
		s, _ := randomPair(t, rnd, rnd.Intn(12), 6)
		b := s.Put(nil)
		for range 1 + rnd.Intn(2) {
			at := rnd.Intn(len(b))
			switch rnd.Intn(3) {
			case 0:
				b[at] = byte(rnd.Intn(16))
			case 1:
				b = slices.Delete(b, at, at+1)
			default:
				b = slices.Insert(b, at, byte(rnd.Intn(256)))
			}
		}
		r := pack.Read(b)
		got := dots.Get(r)
		if got == nil {
			refused++
			continue
		}
		taken++
		back := got.Put(nil)
		if r.Bad() || !bytes.HasPrefix(b, back) || (len(back) == len(b)) != r.End() {
			t.Fatalf("P8.1: Get takes % x, of which Put writes % x", b, back)
		}
	}
	if taken < 1000 || refused < 1000 {
		t.Errorf("the random bytes miss a side: %d taken, %d refused", taken, refused)
	}
}
