package vec_test

import (
	"bytes"
	"math"
	"math/rand"
	"testing"

	"rostrum/api"
	"rostrum/pack"
	"rostrum/vec"
)

const (
	most    = int64(1099511627776) // 2^40, written out
	lowest  = math.MinInt64
	highest = math.MaxInt64
)

// edges are numbers on both sides of each bound.
func edges() []int64 {
	return []int64{lowest, lowest + 1, -most - 1, -most, -2, -1, 0, 1, 2, 63, 64, most - 1, most, most + 1, highest - 1, highest}
}

// fits tells whether a number is one of a good clock.
func fits(n int64) bool { return 0 <= n && n <= most }

// with is v with another number at one place.
func with(v vec.Vec, place int, n int64) vec.Vec {
	v[place] = n
	return v
}

// grounds are good clocks, in which a test lays another number at each place.
func grounds() []vec.Vec {
	return []vec.Vec{{}, {1, 2, 3, 4, 5, 6, 7}, {most, most, most, most, most, most, most}, {0, most, 0, 1, most - 1, 9, 300}}
}

// random is a clock of edges and of small numbers.
func random(rnd *rand.Rand) vec.Vec {
	var v vec.Vec
	for i := range v {
		switch rnd.Intn(8) {
		case 0:
			v[i] = edges()[rnd.Intn(len(edges()))]
		case 1:
			v[i] = int64(rnd.Uint64())
		default:
			v[i] = int64(rnd.Intn(3))
		}
	}
	return v
}

func TestExample(t *testing.T) {
	v, d, err := vec.Next(vec.Vec{}, 2)
	if v != (vec.Vec{0, 0, 1, 0, 0, 0, 0}) || d != (api.Dot{Rep: 2, N: 1}) || err != api.OK {
		t.Errorf("P7.1: Next of zeros and 2: %v, %v, %d", v, d, err)
	}
}

func TestSevenNumbers(t *testing.T) {
	if n := len(vec.Vec{}); n != 7 {
		t.Errorf("P7.1: a clock of %d numbers", n)
	}
}

func TestGood(t *testing.T) {
	for _, ground := range grounds() {
		if !vec.Good(ground) {
			t.Errorf("P7.1: Good(%v): false", ground)
		}
		for place := range ground {
			for _, n := range edges() {
				if v := with(ground, place, n); vec.Good(v) != fits(n) {
					t.Errorf("P7.1: Good(%v): %v", v, vec.Good(v))
				}
			}
		}
	}
}

func TestGoodWrongTwice(t *testing.T) {
	for one := range 7 {
		for two := range 7 {
			v := with(with(vec.Vec{}, one, -1), two, most+1)
			if vec.Good(v) {
				t.Errorf("P7.1: Good(%v): true", v)
			}
		}
	}
}

func TestHas(t *testing.T) {
	for _, ground := range grounds() {
		for rep := range ground {
			for _, n := range edges() {
				v := with(ground, rep, n)
				// Where n is an end of int64 the number behind it wraps round, and is one more to ask for.
				for _, asked := range append(edges(), n-1, n, n+1) {
					want := asked >= 1 && asked <= n
					if got := vec.Has(v, api.Dot{Rep: rep, N: asked}); got != want {
						t.Errorf("P7.1: Has(%v, %d.%d): %v", v, rep, asked, got)
					}
				}
			}
		}
	}
}

func TestHasByHand(t *testing.T) {
	v := vec.Vec{3, 1, 0, -4, most, most + 5, 2}
	for _, c := range []struct {
		rep  int
		n    int64
		want bool
	}{
		{0, -1, false}, {0, 0, false}, {0, 1, true}, {0, 3, true}, {0, 4, false},
		{1, 1, true}, {1, 2, false}, {2, 0, false}, {2, 1, false},
		{3, -4, false}, {3, -5, false}, {3, 0, false}, {3, 1, false},
		{4, most, true}, {4, most + 1, false}, {5, most + 5, true}, {5, most + 6, false},
		{6, 2, true}, {6, 3, false}, {6, 0, false},
	} {
		if got := vec.Has(v, api.Dot{Rep: c.rep, N: c.n}); got != c.want {
			t.Errorf("P7.1: Has(%v, %d.%d): %v", v, c.rep, c.n, got)
		}
	}
}

func TestHasNoReplica(t *testing.T) {
	v := vec.Vec{9, 9, 9, 9, 9, 9, 9}
	for _, rep := range []int{math.MinInt, -8, -7, -1, 7, 8, 14, math.MaxInt} {
		for _, n := range []int64{-1, 0, 1, 9, 10} {
			if vec.Has(v, api.Dot{Rep: rep, N: n}) {
				t.Errorf("P7.1: Has(%v, %d.%d): true", v, rep, n)
			}
		}
	}
}

func TestMergeAndLeast(t *testing.T) {
	a, b := vec.Vec{1, 5, 0, 2, -3, most + 9, 7}, vec.Vec{2, 3, 0, 2, -9, most, 8}
	great, small := vec.Vec{2, 5, 0, 2, -3, most + 9, 8}, vec.Vec{1, 3, 0, 2, -9, most, 7}
	for _, c := range [][2]vec.Vec{{a, b}, {b, a}} {
		if got := vec.Merge(c[0], c[1]); got != great {
			t.Errorf("P7.1: Merge(%v, %v): %v", c[0], c[1], got)
		}
		if got := vec.Least(c[0], c[1]); got != small {
			t.Errorf("P7.1: Least(%v, %v): %v", c[0], c[1], got)
		}
	}
}

func TestMergeAndLeastAtEachPlace(t *testing.T) {
	for _, ground := range grounds() {
		for place := range ground {
			for _, x := range edges() {
				for _, y := range edges() {
					a, b := with(ground, place, x), with(ground, place, y)
					great, small := a, a
					if y > x {
						great = b
					}
					if y < x {
						small = b
					}
					if got := vec.Merge(a, b); got != great {
						t.Errorf("P7.1: Merge(%v, %v): %v", a, b, got)
					}
					if got := vec.Least(a, b); got != small {
						t.Errorf("P7.1: Least(%v, %v): %v", a, b, got)
					}
				}
			}
		}
	}
}

// modelCmp is Cmp by the chapter's words.
func modelCmp(a, b vec.Vec) int {
	above, below := 0, 0
	for i := range a {
		if a[i] > b[i] {
			above++
		}
		if a[i] < b[i] {
			below++
		}
	}
	switch {
	case above == 0 && below == 0:
		return 0
	case above == 0:
		return -1
	case below == 0:
		return 1
	}
	return 2
}

// checkPair holds two clocks against each other by all calls that take two.
func checkPair(t *testing.T, a, b vec.Vec, want int) {
	t.Helper()
	if got := vec.Cmp(a, b); got != want {
		t.Errorf("P7.1: Cmp(%v, %v): %d, want %d", a, b, got, want)
	}
	if got := vec.Le(a, b); got != (want == 0 || want == -1) {
		t.Errorf("P7.1: Le(%v, %v): %v", a, b, got)
	}
}

func TestCmpAndLe(t *testing.T) {
	a := vec.Vec{1, 5, 0, 2}
	for _, c := range []struct {
		a, b  vec.Vec
		there int
		back  int
	}{
		{vec.Vec{}, vec.Vec{}, 0, 0}, {a, a, 0, 0}, {vec.Vec{}, a, -1, 1},
		{a, vec.Vec{1, 5, 0, 3}, -1, 1}, {a, vec.Vec{2, 5, 0, 2}, -1, 1}, {a, vec.Vec{2, 6, 1, 3, 1, 1, 1}, -1, 1},
		{a, vec.Vec{2, 3, 0, 2}, 2, 2}, {vec.Vec{1}, vec.Vec{6: 1}, 2, 2},
		{vec.Vec{-1}, vec.Vec{}, -1, 1}, {vec.Vec{lowest}, vec.Vec{highest}, -1, 1},
		{vec.Vec{lowest, highest}, vec.Vec{highest, lowest}, 2, 2},
		{vec.Vec{5: most}, vec.Vec{5: most + 1}, -1, 1},
	} {
		checkPair(t, c.a, c.b, c.there)
		checkPair(t, c.b, c.a, c.back)
	}
}

func TestCmpAndLeAtEachPlace(t *testing.T) {
	for _, ground := range grounds() {
		for one := range ground {
			for two := range ground {
				for _, x := range edges() {
					a, b := with(ground, one, x), with(ground, two, x)
					checkPair(t, a, b, modelCmp(a, b))
					checkPair(t, a, ground, modelCmp(a, ground))
					checkPair(t, ground, a, modelCmp(ground, a))
				}
			}
		}
	}
}

func TestRandomPairs(t *testing.T) {
	rnd := rand.New(rand.NewSource(7))
	for range 20000 {
		a, b := random(rnd), random(rnd)
		if rnd.Intn(2) == 0 {
			b = with(a, rnd.Intn(7), int64(rnd.Intn(3)))
		}
		keptA, keptB := a, b
		checkPair(t, a, b, modelCmp(a, b))
		great, small := vec.Merge(a, b), vec.Least(a, b)
		for i := range a {
			if (great[i] != a[i] && great[i] != b[i]) || great[i] < a[i] || great[i] < b[i] {
				t.Fatalf("P7.1: Merge(%v, %v): %v", a, b, great)
			}
			if (small[i] != a[i] && small[i] != b[i]) || small[i] > a[i] || small[i] > b[i] {
				t.Fatalf("P7.1: Least(%v, %v): %v", a, b, small)
			}
		}
		if a != keptA || b != keptB {
			t.Fatalf("R4: a clock that was handed in is another one")
		}
	}
}

// checkNext asks for the next one and for what stands beside an error.
func checkNext(t *testing.T, v vec.Vec, rep int, want api.Errno) {
	t.Helper()
	clock, dot := vec.Vec{}, api.Dot{}
	if want == api.OK {
		clock = with(v, rep, v[rep]+1)
		dot = api.Dot{Rep: rep, N: v[rep] + 1}
	}
	kept := v
	gotClock, gotDot, err := vec.Next(v, rep)
	if err != want {
		t.Errorf("P7.1: Next(%v, %d): error %d, want %d", v, rep, err, want)
	}
	if gotClock != clock || gotDot != dot {
		t.Errorf("P7.1: Next(%v, %d): %v, %v, want %v, %v", v, rep, gotClock, gotDot, clock, dot)
	}
	if v != kept {
		t.Errorf("R4: Next(%v, %d) changed its clock: %v", kept, rep, v)
	}
}

// nextError is the error of a number at a replica's place of a clock that is good elsewhere.
func nextError(n int64) api.Errno {
	switch {
	case !fits(n):
		return api.EARG
	case n == most:
		return api.ELIMIT
	}
	return api.OK
}

func TestNext(t *testing.T) {
	for _, ground := range grounds() {
		for rep := range ground {
			for _, n := range edges() {
				checkNext(t, with(ground, rep, n), rep, nextError(n))
			}
		}
	}
}

func TestNextLimitElsewhere(t *testing.T) {
	for rep := range 7 {
		for other := range 7 {
			want := api.OK
			if rep == other {
				want = api.ELIMIT
			}
			checkNext(t, with(vec.Vec{}, other, most), rep, want)
		}
	}
}

func TestNextNotGoodElsewhere(t *testing.T) {
	for rep := range 7 {
		for place := range 7 {
			for _, wrong := range []int64{lowest, -1, most + 1, highest} {
				for _, own := range []int64{0, 41, most - 1, most} {
					checkNext(t, with(with(vec.Vec{}, rep, own), place, wrong), rep, api.EARG)
				}
			}
		}
	}
}

func TestNextNoReplica(t *testing.T) {
	for _, rep := range []int{math.MinInt, -7, -1, 7, 8, math.MaxInt} {
		for _, ground := range grounds() {
			checkNext(t, ground, rep, api.EARG)
			checkNext(t, with(ground, 6, -1), rep, api.EARG)
		}
	}
}

func TestNextRow(t *testing.T) {
	v := vec.Vec{}
	for step := range 100 {
		rep := step * 3 % 7
		before := v
		next, d, err := vec.Next(v, rep)
		if err != api.OK || vec.Has(before, d) || !vec.Has(next, d) || vec.Cmp(before, next) != -1 {
			t.Fatalf("P7.1: Next(%v, %d): %v, %v, %d", before, rep, next, d, err)
		}
		v = next
	}
	if v != (vec.Vec{15, 14, 14, 15, 14, 14, 14}) {
		t.Errorf("P7.1: a hundred steps: %v", v)
	}
}

// written is a clock's bytes by pack's own call, number by number.
func written(ahead []byte, v vec.Vec) []byte {
	b := bytes.Clone(ahead)
	for i := range 7 {
		b = append(b, pack.Num(nil, v[i])...)
	}
	return b
}

func TestPut(t *testing.T) {
	for _, ahead := range [][]byte{nil, {}, {0}, {128}, []byte("ahead"), bytes.Repeat([]byte{255}, 300)} {
		for _, ground := range grounds() {
			for place := range ground {
				for _, n := range edges() {
					v := with(ground, place, n)
					if got, want := vec.Put(ahead, v), written(ahead, v); !bytes.Equal(got, want) {
						t.Errorf("P7.1: Put of %v behind %d bytes: % x, want % x", v, len(ahead), got, want)
					}
				}
			}
		}
	}
}

func TestPutByHand(t *testing.T) {
	for _, c := range []struct {
		v    vec.Vec
		want []byte
	}{
		{vec.Vec{}, []byte{0, 0, 0, 0, 0, 0, 0}},
		{vec.Vec{1, 2, 3, 4, 5, 6, 7}, []byte{2, 4, 6, 8, 10, 12, 14}},
		{vec.Vec{0, 1, 300, most, 0, 0, 9}, []byte{0, 2, 216, 4, 128, 128, 128, 128, 128, 64, 0, 0, 18}},
		{vec.Vec{-1, 0, 0, 0, 0, 0, 150}, []byte{1, 0, 0, 0, 0, 0, 172, 2}},
	} {
		if got := vec.Put([]byte("ab"), c.v); !bytes.Equal(got, append([]byte("ab"), c.want...)) {
			t.Errorf("P7.1: Put of %v: %v, want %v", c.v, got, c.want)
		}
	}
}

func TestPutMemory(t *testing.T) {
	for _, room := range []int{0, 1, 7, 8, 100} {
		whole := bytes.Repeat([]byte{77}, 5+room)
		kept := bytes.Clone(whole)
		got := vec.Put(whole[:5], vec.Vec{1, 2, 3, 4, 5, 6, most})
		if !bytes.Equal(whole, kept) {
			t.Errorf("R4: Put changed what it was handed, spare room %d", room)
		}
		told := bytes.Clone(got)
		clear(whole)
		if !bytes.Equal(got, told) {
			t.Errorf("R4: Put's answer lies in what it was handed, spare room %d", room)
		}
		copy(whole, kept)
		spoilt := got[:cap(got)]
		for i := range spoilt {
			spoilt[i] = 5
		}
		if !bytes.Equal(whole, kept) {
			t.Errorf("R4: Put's spare room lies in what it was handed, spare room %d", room)
		}
		if again := vec.Put(kept[:5], vec.Vec{1, 2, 3, 4, 5, 6, most}); !bytes.Equal(again, told) {
			t.Errorf("R5: Put answers otherwise the second time: %v, %v", again, told)
		}
	}
}

// checkBad tells whether Get answers zeros and leaves its reader bad.
func checkBad(t *testing.T, what string, r *pack.Reader) {
	t.Helper()
	for range 2 {
		if v := vec.Get(r); v != (vec.Vec{}) {
			t.Errorf("P7.1: Get, %s: %v", what, v)
		}
		if !r.Bad() || r.End() {
			t.Errorf("P7.1: Get, %s: Bad %v, End %v", what, r.Bad(), r.End())
		}
	}
}

// checkGot tells whether Get reads v and nothing behind it.
func checkGot(t *testing.T, v vec.Vec) {
	t.Helper()
	r := pack.Read(written(nil, v))
	if got := vec.Get(r); got != v || r.Bad() || !r.End() {
		t.Errorf("P7.1: Get of %v: %v, Bad %v, End %v", v, got, r.Bad(), r.End())
	}
	r = pack.Read(append(written([]byte{6}, v), 10, 20))
	first := r.Num(3, 3)
	got := vec.Get(r)
	if first != 3 || got != v || r.Bad() || r.End() {
		t.Errorf("P7.1: Get of %v, more behind: %v, Bad %v, End %v", v, got, r.Bad(), r.End())
	}
	if r.Num(5, 5) != 5 || r.Num(10, 10) != 10 || !r.End() {
		t.Errorf("P7.1: Get of %v reads on too far or not far enough", v)
	}
}

func TestGet(t *testing.T) {
	for _, ground := range grounds() {
		checkGot(t, ground)
		for place := range ground {
			for _, n := range edges() {
				v := with(ground, place, n)
				if fits(n) {
					checkGot(t, v)
					continue
				}
				checkBad(t, "a number outside", pack.Read(written(nil, v)))
				checkBad(t, "a number outside, more behind", pack.Read(append(written(nil, v), 0, 0, 0, 0, 0, 0, 0, 0)))
			}
		}
	}
}

func TestGetTooFew(t *testing.T) {
	for _, ground := range grounds() {
		b := written(nil, ground)
		for length := range b {
			checkBad(t, "bytes cut", pack.Read(b[:length]))
		}
	}
	for count := range 7 {
		checkBad(t, "fewer numbers", pack.Read(bytes.Repeat([]byte{2}, count)))
	}
}

func TestGetNotAsTold(t *testing.T) {
	for place := range 7 {
		b := bytes.Repeat([]byte{2}, place)
		b = append(b, 130, 0)
		b = append(b, bytes.Repeat([]byte{2}, 6-place)...)
		checkBad(t, "a number in too many groups", pack.Read(b))
	}
}

func TestGetOfBadReader(t *testing.T) {
	r := pack.Read(append([]byte{1}, written(nil, vec.Vec{1, 2, 3, 4, 5, 6, 7})...))
	r.Num(0, 0)
	checkBad(t, "a reader that was bad", r)
	r = pack.Read(written(nil, vec.Vec{1, 2, 3, 4, 5, 6, 7}))
	r.Num(2, 2)
	checkBad(t, "a reader that was bad at the first", r)
}

func TestGetRow(t *testing.T) {
	var b []byte
	for _, v := range grounds() {
		b = vec.Put(b, v)
	}
	r := pack.Read(b)
	for _, v := range grounds() {
		if got := vec.Get(r); got != v || r.Bad() {
			t.Errorf("P7.1: Get of a row: %v, want %v", got, v)
		}
	}
	if !r.End() {
		t.Errorf("P7.1: Get of a row leaves something")
	}
	checkBad(t, "behind the last", r)
}

func TestPutAndGetRandom(t *testing.T) {
	rnd := rand.New(rand.NewSource(77))
	for range 5000 {
		v := random(rnd)
		b := vec.Put(nil, v)
		if !bytes.Equal(b, written(nil, v)) {
			t.Fatalf("P7.1: Put of %v: % x", v, b)
		}
		if !vec.Good(v) {
			checkBad(t, "not good", pack.Read(b))
			continue
		}
		checkGot(t, v)
	}
}
