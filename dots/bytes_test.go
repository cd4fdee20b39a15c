package dots_test

import (
	"bytes"
	"math"
	"slices"
	"testing"

	"rostrum/api"
	"rostrum/dots"
	"rostrum/pack"
	"rostrum/vec"
)

// grounds are dots of all kinds, with the bytes that Put writes of them.
func grounds(t *testing.T) []*dots.Dots {
	return []*dots.Dots{
		dots.New(), of(t, dot(0, 1)), of(t, dot(0, 2)), of(t, dot(6, most), dot(6, 1)),
		from(t, vec.Vec{1, 2, 3, 4, 5, 6, 7}, dot(0, 3), dot(3, 64), dot(6, 9), dot(6, 10)),
		from(t, vec.Vec{most, most, most, most, most, most, most}),
		from(t, vec.Vec{1: 70}, spread(4, 999)...), from(t, vec.Vec{}, spread(5, 1000)...),
	}
}

func TestPutByHand(t *testing.T) {
	for _, c := range []struct {
		s    *dots.Dots
		want string
	}{
		{dots.New(), "\x00\x00\x00\x00\x00\x00\x00\x00"},
		{of(t, dot(0, 1), dot(6, 1), dot(6, 2)), "\x02\x00\x00\x00\x00\x00\x04\x00"},
		{of(t, dot(0, 2)), "\x00\x00\x00\x00\x00\x00\x00\x02\x00\x04"},
		{of(t, dot(6, 150), dot(1, 1), dot(6, 3), dot(1, 3)), "\x00\x02\x00\x00\x00\x00\x00\x06\x02\x06\x0c\x06\x0c\xac\x02"},
		{of(t, dot(3, most)), "\x00\x00\x00\x00\x00\x00\x00\x02\x06\x80\x80\x80\x80\x80\x40"},
	} {
		for _, ahead := range []string{"", "ab", "\x80", "\x00\x00"} {
			if got := c.s.Put([]byte(ahead)); string(got) != ahead+c.want {
				t.Errorf("P8.1: Put behind %q: %q, want %q", ahead, got, ahead+c.want)
			}
		}
	}
}

func TestPut(t *testing.T) {
	for _, s := range grounds(t) {
		want := written(s.Vec(), s.Loose()...)
		for _, ahead := range [][]byte{nil, {}, {0}, {128}, []byte("ahead"), bytes.Repeat([]byte{255}, 300)} {
			if got := s.Put(ahead); !bytes.Equal(got, slices.Concat(ahead, want)) {
				t.Errorf("P8.1: Put of %v, %d loose ones behind %d bytes: % x", s.Vec(), len(s.Loose()), len(ahead), got)
			}
		}
	}
}

func TestPutMemory(t *testing.T) {
	s := of(t, dot(0, 1), dot(0, 3), dot(6, most))
	for _, room := range []int{0, 1, 8, 9, 100} {
		whole := bytes.Repeat([]byte{77}, 5+room)
		kept := bytes.Clone(whole)
		got := s.Put(whole[:5])
		if !bytes.Equal(whole, kept) {
			t.Errorf("R4: Put changed what it was handed, spare room %d", room)
		}
		told := bytes.Clone(got)
		clear(whole)
		if !bytes.Equal(got, told) {
			t.Errorf("R4: Put's answer lies in what it was handed, spare room %d", room)
		}
		copy(whole, kept)
		spoilt := got[:cap(got)]
		for i := range spoilt {
			spoilt[i] = 5
		}
		if !bytes.Equal(whole, kept) {
			t.Errorf("R4: Put's spare room lies in what it was handed, spare room %d", room)
		}
		if again := s.Put(kept[:5]); !bytes.Equal(again, told) {
			t.Errorf("R5: Put answers otherwise the second time: %v, %v", again, told)
		}
	}
	holds(t, "behind Put", s, vecOf(0, 1), dot(0, 3), dot(6, most))
}

func TestGet(t *testing.T) {
	for _, s := range grounds(t) {
		b := s.Put(nil)
		r := pack.Read(b)
		got := dots.Get(r)
		if got == nil || r.Bad() || !r.End() {
			t.Fatalf("P8.1: Get of %v, %d loose ones: %v, Bad %v, End %v", s.Vec(), len(s.Loose()), got, r.Bad(), r.End())
		}
		holds(t, "Get", got, s.Vec(), s.Loose()...)
		if !dots.Same(got, s) || !bytes.Equal(got.Put(nil), b) {
			t.Errorf("P8.1: Get of %v, %d loose ones: others", s.Vec(), len(s.Loose()))
		}
	}
}

func TestGetAmongOthers(t *testing.T) {
	for _, s := range grounds(t) {
		r := pack.Read(s.Put(s.Put(pack.Num(nil, 9))))
		if r.Num(9, 9) != 9 {
			t.Fatalf("P4.1: the number ahead is not read")
		}
		one, two := dots.Get(r), dots.Get(r)
		if one == nil || two == nil || !r.End() || !dots.Same(one, s) || !dots.Same(two, s) {
			t.Errorf("P8.1: Get of a row reads too far or not far enough")
		}
		r = pack.Read(append(s.Put(nil), 10, 255))
		if got := dots.Get(r); got == nil || r.Bad() || r.End() || r.Num(5, 5) != 5 {
			t.Errorf("P8.1: Get with bytes behind it")
		}
	}
}

func TestGetTooFew(t *testing.T) {
	for _, s := range grounds(t) {
		b := s.Put(nil)
		for length := range b {
			isBad(t, "fewer bytes", pack.Read(b[:length]))
		}
	}
}

// isBad tells whether Get answers nil and its reader is bad then.
func isBad(t *testing.T, what string, r *pack.Reader) {
	t.Helper()
	for range 2 {
		if got := dots.Get(r); got != nil {
			t.Errorf("P8.1: Get, %s: %v, %v", what, got.Vec(), got.Loose())
		}
		if !r.Bad() || r.End() || r.Num(0, math.MaxInt64) != 0 {
			t.Errorf("P8.1: Get, %s: the reader is not bad", what)
		}
	}
}

func TestGetOfBadReader(t *testing.T) {
	for _, s := range grounds(t) {
		r := pack.Read(append([]byte{1}, s.Put(nil)...))
		r.Num(0, 0)
		isBad(t, "a reader that was bad", r)
	}
}

func TestGetWrongNumbers(t *testing.T) {
	for place := range 7 {
		for _, n := range []int64{math.MinInt64, -1, most + 1, math.MaxInt64} {
			isBad(t, "a clock that is not Good", pack.Read(written(vecOf(place, n), dot(1, most))))
		}
	}
	for _, count := range []int64{math.MinInt64, -1, 1001, 1002, math.MaxInt64} {
		isBad(t, "a count that may not be", pack.Read(counted(vec.Vec{}, count, spread(2, 1002)...)))
		isBad(t, "a count that may not be, none behind it", pack.Read(counted(vec.Vec{}, count)))
	}
	for _, d := range wrongDots() {
		isBad(t, "a wrong dot", pack.Read(written(vec.Vec{}, d)))
		isBad(t, "a wrong dot, more behind", pack.Read(append(written(vec.Vec{}, d), 0, 4, 0, 6)))
		isBad(t, "a wrong dot in front of one", pack.Read(written(vec.Vec{}, d, dot(6, 100))))
		isBad(t, "a wrong dot behind one", pack.Read(written(vec.Vec{}, dot(0, 2), d)))
	}
}

func TestGetNotAsTold(t *testing.T) {
	b := written(vec.Vec{1, 1, 1, 1, 1, 1, 1}, dot(1, 5), dot(2, 6))
	for at := range b {
		long := slices.Insert(slices.Clone(b), at+1, 0)
		long[at] |= 128
		isBad(t, "a number in too many groups", pack.Read(long))
	}
}

func TestGetCounts(t *testing.T) {
	row := spread(2, 1000)
	for _, count := range []int{0, 1, 2, 999, 1000} {
		r := pack.Read(counted(vec.Vec{}, int64(count), row...))
		got := dots.Get(r)
		if got == nil || r.Bad() {
			t.Fatalf("P8.1: Get of %d loose ones: nil", count)
		}
		holds(t, "Get of some", got, vec.Vec{}, row[:count]...)
		if count == 1000 {
			addsTo(t, got, dot(0, 2), false, api.ELIMIT)
		}
	}
}

// isRefused tells whether Get answers nil of numbers each of which may be: then the reader is as it was (R3).
func isRefused(t *testing.T, what string, v vec.Vec, loose ...api.Dot) {
	t.Helper()
	b := written(v, loose...)
	r := pack.Read(append(pack.Num(nil, 1), b...))
	r.Num(1, 1)
	for range 2 {
		if got := dots.Get(r); got != nil {
			t.Errorf("P8.1: Get, %s: %v, %v", what, got.Vec(), got.Loose())
		}
	}
	if vec.Get(r) != v || r.Num(0, 1000) != int64(len(loose)) {
		t.Errorf("R3: Get, %s: the reader has read on", what)
	}
	for _, d := range loose {
		if r.Num(0, 6) != int64(d.Rep) || r.Num(1, most) != d.N {
			t.Errorf("R3: Get, %s: the reader has read on", what)
		}
	}
	if !r.End() {
		t.Errorf("R3: Get, %s: the reader has something behind", what)
	}
	isBad(t, what+", fewer bytes", pack.Read(b[:len(b)-1]))
}

func TestGetNotInOrder(t *testing.T) {
	for rep := range 6 {
		isRefused(t, "by Rep", vec.Vec{}, dot(rep+1, 2), dot(rep, 2))
		isRefused(t, "by Rep, N rising", vec.Vec{}, dot(rep+1, 2), dot(rep, 3))
	}
	for rep := range 7 {
		isRefused(t, "by N", vec.Vec{}, dot(rep, 3), dot(rep, 2))
		isRefused(t, "by N, not the first two", vec.Vec{}, dot(rep, 2), dot(rep, most), dot(rep, most-1))
		isRefused(t, "twice", vec.Vec{}, dot(rep, 2), dot(rep, 2))
		isRefused(t, "twice at 2^40", vecOf(rep, 7), dot(rep, most), dot(rep, most))
		isRefused(t, "twice, not one behind the other", vec.Vec{}, dot(rep, 2), dot(rep, 4), dot(rep, 2))
	}
	row := spread(3, 1000)
	row[998], row[999] = row[999], row[998]
	isRefused(t, "the last two of a thousand", vec.Vec{}, row...)
	row = spread(3, 1000)
	row[999] = row[998]
	isRefused(t, "the last of a thousand twice", vec.Vec{}, row...)
}

func TestGetNotLoose(t *testing.T) {
	for rep := range 7 {
		isRefused(t, "the first", vec.Vec{}, dot(rep, 1))
		isRefused(t, "the first, then the second", vec.Vec{}, dot(rep, 1), dot(rep, 2))
		for _, n := range []int64{1, 2, 40, most - 1} {
			isRefused(t, "the next one", vecOf(rep, n), dot(rep, n+1))
			isRefused(t, "the clock's last", vecOf(rep, n), dot(rep, n))
			isRefused(t, "the clock's first", vecOf(rep, n), dot(rep, 1))
			if n < most-1 {
				holds(t, "the one behind the next", from(t, vecOf(rep, n), dot(rep, n+2)), vecOf(rep, n), dot(rep, n+2))
			}
		}
		isRefused(t, "the clock's last at 2^40", vecOf(rep, most), dot(rep, most))
	}
	isRefused(t, "the next one behind others", vec.Vec{0, 3, 0, 5}, dot(0, 2), dot(1, 5), dot(3, 6))
	isRefused(t, "one that is there behind others", vec.Vec{0, 3, 0, 5}, dot(0, 2), dot(1, 5), dot(3, 5))
	row := append(spread(3, 999), dot(6, 1))
	isRefused(t, "the next one behind 999 others", vec.Vec{}, row...)
}

// TestGetKeepsNothing reads twice from the same bytes, and changes them and one of the two.
func TestGetKeepsNothing(t *testing.T) {
	b := written(vec.Vec{2, 1}, dot(0, 4), dot(0, 6), dot(2, 9))
	kept := bytes.Clone(b)
	r := pack.Read(slices.Concat(b, b))
	one, two := dots.Get(r), dots.Get(r)
	if !bytes.Equal(b, kept) || one == nil || two == nil {
		t.Fatalf("P8.1: Get twice")
	}
	clear(b)
	for _, d := range []api.Dot{dot(0, 3), dot(0, 9), dot(4, 4)} {
		addsTo(t, one, d, true, api.OK)
	}
	holds(t, "what was read first", one, vec.Vec{4, 1}, dot(0, 6), dot(0, 9), dot(2, 9), dot(4, 4))
	holds(t, "what was read then", two, vec.Vec{2, 1}, dot(0, 4), dot(0, 6), dot(2, 9))
}
