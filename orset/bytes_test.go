package orset_test

import (
	"bytes"
	"slices"
	"testing"

	"rostrum/api"
	"rostrum/orset"
	"rostrum/vec"
)

// several is a set of several texts with several dots.
func several(t *testing.T) *orset.Set {
	t.Helper()
	return of(t,
		add(dot(6, 2), "y", api.OK), add(dot(0, 150), "x", api.OK), add(dot(0, 3), "x", api.OK), add(dot(3, 1), "", api.OK),
		add(dot(6, 1), "x", api.OK), add(dot(1, most), "xé", api.OK), add(dot(1, 1), "gone", api.OK),
		remove("gone", vec.Vec{1: 1}, api.OK), remove("x", vec.Vec{2}, api.OK))
}

const (
	severalShown = " 3.1; x 0.3 0.150 6.1; xé 1.1099511627776; y 6.2"
	severalPut   = "\x08" +
		"\x00\x02\x06\x02" +
		"\x02x\x06\x00\x06\x00\xac\x02\x0c\x02" +
		"\x06x\xc3\xa9\x02\x02\x80\x80\x80\x80\x80\x40" +
		"\x02y\x02\x0c\x04"
)

func TestPut(t *testing.T) {
	for _, c := range []struct {
		s    *orset.Set
		want string
	}{
		{orset.New(), "\x00"},
		{of(t, remove("x", vec.Vec{1}, api.OK), add(dot(0, 1), "x", api.OK)), "\x00"},
		{of(t, add(dot(0, 1), "x", api.OK)), "\x02\x02x\x02\x00\x02"},
		{of(t, add(dot(6, 1), "", api.OK)), "\x02\x00\x02\x0c\x02"},
		{of(t, add(dot(6, 64), "x", api.OK), add(dot(0, 2), "x", api.OK), add(dot(6, 9), "x", api.OK)), "\x02\x02x\x06\x00\x04\x0c\x12\x0c\x80\x01"},
		{of(t, add(dot(0, 1), long(100), api.OK)), "\x02\xc8\x01" + long(100) + "\x02\x00\x02"},
		{several(t), severalPut},
	} {
		for _, ahead := range []string{"", "ab", "\x80", "\x00\x00", long(300)} {
			if got := c.s.Put([]byte(ahead)); string(got) != ahead+c.want {
				t.Errorf("P9.1: Put behind %.10q: %q, want %q", ahead, got, ahead+c.want)
			}
		}
		if got := c.s.Put(nil); string(got) != c.want {
			t.Errorf("P9.1: Put behind nil: %q, want %q", got, c.want)
		}
	}
}

func TestPutMemory(t *testing.T) {
	s := several(t)
	for _, room := range []int{0, 1, len(severalPut) - 1, len(severalPut), 200} {
		whole := bytes.Repeat([]byte{77}, 5+room)
		kept := bytes.Clone(whole)
		got := s.Put(whole[:5])
		if !bytes.Equal(whole, kept) {
			t.Errorf("R4: Put changed what it was handed, spare room %d", room)
		}
		told := bytes.Clone(got)
		clear(whole)
		if !bytes.Equal(got, told) {
			t.Errorf("R4: Put's answer lies in what it was handed, spare room %d", room)
		}
		copy(whole, kept)
		spoil(got, 5)
		if !bytes.Equal(whole, kept) {
			t.Errorf("R4: Put's spare room lies in what it was handed, spare room %d", room)
		}
		if again := s.Put(kept[:5]); !bytes.Equal(again, told) {
			t.Errorf("R5: Put answers otherwise the second time: %v, %v", again, told)
		}
	}
	holds(t, "behind Put", s, severalShown)
}

// spoil writes over an answer, its spare room included.
func spoil[T any](answer []T, with T) {
	answer = answer[:cap(answer)]
	for i := range answer {
		answer[i] = with
	}
}

func TestAnswersMemory(t *testing.T) {
	s := several(t)
	texts, dots := s.All(), s.Dots("x")
	otherTexts, otherDots := s.All(), s.Dots("x")
	spoil(texts, "q")
	spoil(dots, dot(5, 5))
	if !slices.Equal(otherTexts, []string{"", "x", "xé", "y"}) || !slices.Equal(otherDots, []api.Dot{dot(0, 3), dot(0, 150), dot(6, 1)}) {
		t.Errorf("R4: two answers share memory: %q, %v", otherTexts, otherDots)
	}
	holds(t, "behind what was done to answers", s, severalShown)
	// Nor does a later call write into an earlier answer.
	tell(t, s, add(dot(0, 1000), "a", api.OK), add(dot(0, 4), "x", api.OK), remove("x", vec.Vec{3}, api.OK), remove("y", vec.Vec{6: 2}, api.OK))
	if !slices.Equal(otherTexts, []string{"", "x", "xé", "y"}) || !slices.Equal(otherDots, []api.Dot{dot(0, 3), dot(0, 150), dot(6, 1)}) {
		t.Errorf("R4: later calls changed earlier answers: %q, %v", otherTexts, otherDots)
	}
	if string(several(t).Put(nil)) != severalPut {
		t.Errorf("P9.1: another set is changed")
	}
}

func TestCopy(t *testing.T) {
	s := several(t)
	c := s.Copy()
	holds(t, "Copy", c, severalShown)
	if !orset.Same(s, c) || string(c.Put(nil)) != severalPut {
		t.Errorf("P9.1: Copy is not Same: %q", show(c))
	}
	tell(t, c, add(dot(0, 4), "x", api.OK), add(dot(4, 1), "y", api.OK), add(dot(4, 2), "q", api.OK), remove("x", vec.Vec{3}, api.OK))
	holds(t, "what was copied, behind calls on the copy", s, severalShown)
	tell(t, s, remove("x", vec.Vec{150}, api.OK), remove("", vec.Vec{3: 9}, api.OK), add(dot(5, 1), "a", api.OK))
	holds(t, "the copy, behind calls on both", c, " 3.1; q 4.2; x 0.4 0.150 6.1; xé 1.1099511627776; y 4.1 6.2")
	holds(t, "what was copied, behind calls on both", s, "a 5.1; x 6.1; xé 1.1099511627776; y 6.2")
	holds(t, "Copy of none", orset.New().Copy(), "")
}

// What a copy was told is known to it alone, what was told ahead is known to both.
func TestCopyKnows(t *testing.T) {
	s := several(t)
	c := s.Copy()
	for _, one := range []*orset.Set{s, c} {
		tell(t, one, add(dot(1, 1), "x", api.EEXIST), add(dot(1, 1), "gone", api.OK), add(dot(0, 2), "x", api.OK), add(dot(0, 3), "y", api.EEXIST))
		holds(t, "what was known", one, severalShown)
	}
	tell(t, c, add(dot(2, 1), "c", api.OK), remove("x", vec.Vec{2: 5}, api.OK))
	tell(t, s, add(dot(2, 1), "s", api.OK), add(dot(2, 2), "x", api.OK))
	tell(t, c, add(dot(2, 1), "s", api.EEXIST), add(dot(2, 2), "x", api.OK))
	holds(t, "what was copied", s, " 3.1; s 2.1; x 0.3 0.150 2.2 6.1; xé 1.1099511627776; y 6.2")
	holds(t, "the copy", c, " 3.1; c 2.1; x 0.3 0.150 6.1; xé 1.1099511627776; y 6.2")
	// A Drop of either leaves the other one's knowledge.
	c = s.Copy()
	tell(t, c, drop(vec.Vec{200, 9, 9, 9, 9, 9, 9}))
	tell(t, s, add(dot(1, 1), "x", api.EEXIST), add(dot(0, 1), "x", api.OK), add(dot(0, 2), "y", api.EEXIST))
	holds(t, "what was copied, behind a Drop on the copy", s, " 3.1; s 2.1; x 0.3 0.150 2.2 6.1; xé 1.1099511627776; y 6.2")
	c = s.Copy()
	tell(t, s, drop(vec.Vec{200, 9, 9, 9, 9, 9, 9}))
	tell(t, c, add(dot(1, 1), "x", api.EEXIST), add(dot(0, 1), "x", api.OK), add(dot(0, 2), "y", api.EEXIST))
	holds(t, "the copy, behind a Drop on what was copied", c, " 3.1; s 2.1; x 0.3 0.150 2.2 6.1; xé 1.1099511627776; y 6.2")
}

func TestSame(t *testing.T) {
	base := []step{add(dot(0, 1), "x", api.OK), add(dot(1, 1), "x", api.OK), add(dot(0, 2), "y", api.OK)}
	a := of(t, base...)
	alike := []*orset.Set{
		a, of(t, base[2], base[1], base[0]), of(t, base[1], base[1], base[2], base[0]), a.Copy(),
		// What is known and is not there does not count.
		tell(t, of(t, base...), remove("x", vec.Vec{2: 9}, api.OK), remove("q", vec.Vec{9}, api.OK)),
		tell(t, of(t, base...), add(dot(5, 1), "q", api.OK), add(dot(5, 2), "x", api.OK), remove("q", vec.Vec{5: 1}, api.OK), remove("x", vec.Vec{5: 2}, api.OK)),
		tell(t, of(t, base...), drop(vec.Vec{9, 9})),
	}
	others := []*orset.Set{
		orset.New(), of(t, base[0], base[1]), of(t, base[0], base[2]), of(t, base[1], base[2]),
		tell(t, of(t, base...), add(dot(0, 3), "x", api.OK)), tell(t, of(t, base...), add(dot(0, 3), "z", api.OK)),
		of(t, base[0], base[1], add(dot(0, 2), "z", api.OK)), of(t, base[0], base[1], add(dot(0, 3), "y", api.OK)),
		of(t, base[0], base[2], add(dot(2, 1), "x", api.OK)), of(t, base[1], base[2], add(dot(0, 1), "y", api.OK)),
	}
	for i, b := range alike {
		for j, c := range alike {
			if !orset.Same(b, c) {
				t.Errorf("P9.1: number %d and %d are not Same: %q, %q", i, j, show(b), show(c))
			}
		}
		for j, c := range others {
			if orset.Same(b, c) || orset.Same(c, b) {
				t.Errorf("P9.1: %d and the other %d are Same: %q, %q", i, j, show(b), show(c))
			}
		}
	}
	for i, b := range others {
		for j, c := range others {
			if orset.Same(b, c) != (i == j) {
				t.Errorf("P9.1: of the others %d and %d: Same %v", i, j, orset.Same(b, c))
			}
		}
	}
	if !orset.Same(orset.New(), of(t, base[0], remove("x", vec.Vec{1}, api.OK))) {
		t.Errorf("P9.1: of none: not Same")
	}
}
