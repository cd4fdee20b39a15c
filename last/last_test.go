package last_test

import (
	"bytes"
	"fmt"
	"math"
	"slices"
	"strings"
	"testing"
	"unsafe"

	"rostrum/api"
	"rostrum/last"
)

const (
	most    = int64(1099511627776) // 2^40, written out
	lowest  = math.MinInt64
	highest = math.MaxInt64
)

func dot(rep int, n int64) api.Dot { return api.Dot{Rep: rep, N: n} }

// written is what one has, by all that tells it but Put.
type written struct {
	x    string
	ok   bool
	time int64
	d    api.Dot
}

// String keeps what is no UTF-8 out of a test's output.
func (w written) String() string {
	return fmt.Sprintf("%.20q, %v, %d, %v", w.x, w.ok, w.time, w.d)
}

// none is what one has to which nothing was written.
func none() written { return written{} }

// have asks it twice, since asking changes nothing.
func have(t *testing.T, l *last.Last) written {
	t.Helper()
	var answers [2]written
	for i := range answers {
		answers[i].x, answers[i].ok = l.Value()
		answers[i].time, answers[i].d = l.When()
	}
	if answers[0] != answers[1] {
		t.Errorf("R5: asked twice: %v, %v", answers[0], answers[1])
	}
	return answers[0]
}

// holds tells whether one has just that.
func holds(t *testing.T, what string, l *last.Last, want written) {
	t.Helper()
	if got := have(t, l); got != want {
		t.Errorf("P11.1: %s: %v, want %v", what, got, want)
	}
}

// step is a Write, and what it must answer.
type step struct {
	x    string
	time int64
	d    api.Dot
	did  bool
	want api.Errno
}

func is(x string, time int64, d api.Dot) step  { return step{x, time, d, true, api.OK} }
func not(x string, time int64, d api.Dot) step { return step{x, time, d, false, api.OK} }
func refused(x string, time int64, d api.Dot, e api.Errno) step {
	return step{x, time, d, false, e}
}

// tell does Writes: each of them must answer what it wants, and be the value then, or leave it as it was.
func tell(t *testing.T, l *last.Last, steps ...step) *last.Last {
	t.Helper()
	for i, one := range steps {
		want := have(t, l)
		if one.did {
			want = written{one.x, true, one.time, one.d}
		}
		what := fmt.Sprintf("step %d, Write(%.10q of %d bytes, %d, %v)", i, one.x, len(one.x), one.time, one.d)
		if did, err := l.Write(one.x, one.time, one.d); did != one.did || err != one.want {
			t.Errorf("P11.1: %s: %v, %d, want %v, %d", what, did, err, one.did, one.want)
		}
		holds(t, what, l, want)
	}
	return l
}

// of is one to which that was written.
func of(t *testing.T, x string, time int64, d api.Dot) *last.Last {
	t.Helper()
	return tell(t, last.New(), is(x, time, d))
}

// long is a text of that many bytes.
func long(length int) string { return strings.Repeat("v", length) }

// goodTexts are texts that may be, at both edges, and such as are not made of letters.
func goodTexts() []string {
	return []string{
		"", "v", "\x00", "\xff", "é", "a,b|c\n", "\x00\x80\xfe\x00", "ab\x00", long(99), long(100),
		strings.Repeat("\x00", 100), strings.Repeat("\xff", 100), strings.Repeat("é", 50),
	}
}

// badTexts are too long, also such as have no more than a hundred letters.
func badTexts() []string {
	return []string{
		long(101), long(102), long(200), long(356), long(70000), strings.Repeat("\x00", 101), strings.Repeat("\xff", 101),
		strings.Repeat("é", 51), strings.Repeat("é", 50) + "e",
	}
}

func goodTimes() []int64 { return []int64{0, 1, 63, 64, 1 << 32, most - 1, most} }

func badTimes() []int64 {
	return []int64{lowest, lowest + 1, -most - 1, -most, -2, -1, most + 1, most + 2, 2 * most, 1 << 50, highest - 1, highest}
}

func goodDots() []api.Dot {
	var list []api.Dot
	for rep := range 7 {
		for _, n := range []int64{1, 2, 64, 1 << 32, most - 1, most} {
			list = append(list, dot(rep, n))
		}
	}
	return list
}

func badDots() []api.Dot {
	list := []api.Dot{{}}
	for _, rep := range badReps() {
		for _, n := range []int64{1, 5, most, 0, -1, most + 1} {
			list = append(list, dot(rep, n))
		}
	}
	for rep := range 7 {
		for _, n := range badNs() {
			list = append(list, dot(rep, n))
		}
	}
	return list
}

func badReps() []int {
	return []int{math.MinInt, math.MinInt + 1, math.MinInt32, -8, -7, -2, -1, 7, 8, 13, 14, 256, math.MaxInt32, math.MaxInt - 1, math.MaxInt}
}

func badNs() []int64 {
	return []int64{lowest, lowest + 1, -most - 1, -most, -5, -2, -1, 0, most + 1, most + 2, 2 * most, 1 << 50, highest - 1, highest}
}

func TestExample(t *testing.T) {
	l := last.New()
	l.Write("a", 5, dot(0, 1))
	l.Write("b", 3, dot(1, 1))
	if x, ok := l.Value(); x != "a" || !ok {
		t.Errorf("P11.1: the chapter's example: %q, %v", x, ok)
	}
	tell(t, last.New(), is("a", 5, dot(0, 1)), not("b", 3, dot(1, 1)))
}

func TestNew(t *testing.T) {
	a, b := last.New(), last.New()
	holds(t, "New", a, none())
	tell(t, a, is("a", 5, dot(0, 1)))
	holds(t, "another New", b, none())
	holds(t, "a later New", last.New(), none())
}

// The first one is the value, whatever it is.
func TestFirstWrite(t *testing.T) {
	for _, x := range goodTexts() {
		of(t, x, 5, dot(1, 7))
		of(t, x, 0, dot(0, 1))
	}
	for _, time := range goodTimes() {
		for _, d := range goodDots() {
			of(t, "", time, d)
			of(t, "v", time, d)
		}
	}
}

// A text of no bytes is a value like any other.
func TestEmptyText(t *testing.T) {
	l := of(t, "", 0, dot(0, 1))
	tell(t, l, not("", 0, dot(0, 1)), refused("v", 0, dot(0, 1), api.EEXIST), is("v", 0, dot(0, 2)),
		refused("", 0, dot(0, 2), api.EEXIST), is("", 0, dot(1, 1)), not("v", 0, dot(0, 2)))
	holds(t, "an empty text", l, written{"", true, 0, dot(1, 1)})
}

// grounds are one without a value and some with one.
func grounds(t *testing.T) map[string]*last.Last {
	t.Helper()
	return map[string]*last.Last{
		"none": last.New(), "the least": of(t, "", 0, dot(0, 1)), "some": of(t, "ab", 5, dot(3, 9)),
		"the most": of(t, long(100), most, dot(6, most)),
	}
}

func TestWriteTooLong(t *testing.T) {
	for what, l := range grounds(t) {
		before := have(t, l)
		for _, x := range badTexts() {
			tell(t, l, refused(x, 6, dot(4, 1), api.EARG), refused(x, 0, dot(0, 1), api.EARG), refused(x, most, dot(6, most), api.EARG))
		}
		holds(t, what+", behind texts that are too long", l, before)
	}
}

func TestWriteOfNoTime(t *testing.T) {
	for what, l := range grounds(t) {
		before := have(t, l)
		for _, time := range badTimes() {
			tell(t, l, refused("v", time, dot(4, 1), api.EARG), refused("", time, dot(0, 1), api.EARG), refused("v", time, dot(6, most), api.EARG))
		}
		holds(t, what+", behind times that are none", l, before)
	}
}

func TestWriteOfNoDot(t *testing.T) {
	for what, l := range grounds(t) {
		before := have(t, l)
		for _, d := range badDots() {
			tell(t, l, refused("v", 6, d, api.EARG), refused("", 0, d, api.EARG), refused("v", most, d, api.EARG))
		}
		holds(t, what+", behind dots that are none", l, before)
	}
}

func TestWriteSeveralWrong(t *testing.T) {
	for what, l := range grounds(t) {
		before := have(t, l)
		for _, d := range badDots() {
			tell(t, l, refused(long(101), 6, d, api.EARG), refused("v", -1, d, api.EARG), refused("v", most+1, d, api.EARG),
				refused(long(101), -1, d, api.EARG), refused(long(101), highest, d, api.EARG))
		}
		for _, time := range badTimes() {
			tell(t, l, refused(long(101), time, dot(4, 1), api.EARG), refused("v", time, dot(7, 0), api.EARG))
		}
		holds(t, what+", behind Writes with several wrong", l, before)
	}
}

// EARG is named ahead of EEXIST: what is wrong is wrong also beside what is the value's.
func TestWriteWrongBesideTheValue(t *testing.T) {
	l := of(t, "ab", 5, dot(3, 9))
	for _, x := range badTexts() {
		tell(t, l, refused(x, 5, dot(3, 9), api.EARG))
	}
	for _, time := range badTimes() {
		tell(t, l, refused("ab", time, dot(3, 9), api.EARG), refused("c", time, dot(3, 9), api.EARG))
	}
	for _, rep := range badReps() {
		tell(t, l, refused("ab", 5, dot(rep, 9), api.EARG), refused("c", 5, dot(rep, 9), api.EARG))
	}
	for _, n := range badNs() {
		tell(t, l, refused("ab", 5, dot(3, n), api.EARG), refused("c", 5, dot(3, n), api.EARG))
	}
	tell(t, l, refused("c", 5, dot(3, 9), api.EEXIST), not("ab", 5, dot(3, 9)))
}

// Nothing that was refused is in the way of what comes later.
func TestWriteBehindRefused(t *testing.T) {
	l := tell(t, last.New(), refused(long(101), most, dot(6, most), api.EARG), refused("v", most+1, dot(6, most), api.EARG),
		refused("v", most, dot(7, most), api.EARG), refused("v", most, dot(6, most+1), api.EARG), is("a", 0, dot(0, 1)))
	tell(t, l, refused("b", 0, dot(0, 1), api.EEXIST), refused(long(101), 9, dot(0, 2), api.EARG), refused("v", 9, dot(0, 0), api.EARG), is("c", 0, dot(0, 2)))
}

// Nor is a Write that was too late kept: its dot is no longer known.
func TestWriteBehindLate(t *testing.T) {
	l := of(t, "a", 5, dot(3, 3))
	tell(t, l, not("b", 4, dot(6, 9)), not("c", 4, dot(6, 9)), not("d", 5, dot(2, 9)), not("e", 5, dot(2, 9)), refused("f", 5, dot(3, 3), api.EEXIST))
	tell(t, l, is("g", 6, dot(0, 1)), not("a", 5, dot(3, 3)), not("h", 5, dot(3, 3)))
}

// before are dots ahead of 3.9.
func before() []api.Dot {
	return []api.Dot{dot(0, 1), dot(0, 9), dot(0, most), dot(2, 8), dot(2, 9), dot(2, 10), dot(2, most), dot(3, 1), dot(3, 8)}
}

// behind are dots behind 3.9.
func behind() []api.Dot {
	return []api.Dot{dot(3, 10), dot(3, most), dot(4, 1), dot(4, 8), dot(4, 9), dot(4, 10), dot(6, 1), dot(6, most)}
}

func TestWriteBeforeAndBehind(t *testing.T) {
	every := slices.Concat(before(), []api.Dot{dot(3, 9)}, behind())
	for _, x := range []string{"", "a", "ab", "abc", "b", long(100)} {
		for _, d := range every {
			for _, time := range []int64{6, 7, 1000, most} {
				tell(t, of(t, "ab", 5, dot(3, 9)), is(x, time, d))
			}
			for _, time := range []int64{0, 1, 4} {
				tell(t, of(t, "ab", 5, dot(3, 9)), not(x, time, d))
			}
		}
		for _, d := range behind() {
			tell(t, of(t, "ab", 5, dot(3, 9)), is(x, 5, d))
		}
		for _, d := range before() {
			tell(t, of(t, "ab", 5, dot(3, 9)), not(x, 5, d))
		}
	}
}

func TestWriteAtEdges(t *testing.T) {
	tell(t, of(t, "a", 0, dot(0, 1)), is("b", 0, dot(0, 2)), is("c", 0, dot(0, most)), is("d", 0, dot(1, 1)), is("e", 0, dot(6, most)),
		is("f", 1, dot(0, 1)), is("g", most-1, dot(0, 1)), is("h", most, dot(0, 1)), is("i", most, dot(6, most-1)), is("j", most, dot(6, most)),
		not("k", most, dot(6, most-1)), not("k", most-1, dot(6, most)), not("k", 0, dot(0, 1)), refused("k", most, dot(6, most), api.EEXIST), not("j", most, dot(6, most)))
}

// A dot may come again at another time, and a time with another dot.
func TestWriteAgain(t *testing.T) {
	l := of(t, "a", 5, dot(3, 9))
	tell(t, l, not("a", 5, dot(3, 9)), not("a", 5, dot(3, 9)), refused("b", 5, dot(3, 9), api.EEXIST), refused("b", 5, dot(3, 9), api.EEXIST), not("a", 5, dot(3, 9)))
	tell(t, l, is("a", 6, dot(3, 9)), not("b", 5, dot(3, 9)), is("a", 6, dot(3, 10)), not("b", 6, dot(3, 9)), refused("b", 6, dot(3, 10), api.EEXIST), is("b", 7, dot(3, 10)))
}

// Texts are held against each other by all of their bytes, and by these alone.
func TestWriteAnotherText(t *testing.T) {
	for i, x := range goodTexts() {
		for j, y := range goodTexts() {
			l := of(t, x, 5, dot(3, 9))
			if i == j {
				tell(t, l, not(strings.Clone(y), 5, dot(3, 9)))
			} else {
				tell(t, l, refused(y, 5, dot(3, 9), api.EEXIST))
			}
		}
	}
	tell(t, of(t, "ab", 5, dot(3, 9)), refused("aB", 5, dot(3, 9), api.EEXIST), refused("ab ", 5, dot(3, 9), api.EEXIST), refused("ab\x00", 5, dot(3, 9), api.EEXIST))
	tell(t, of(t, "\xff", 5, dot(3, 9)), refused("\xfe", 5, dot(3, 9), api.EEXIST), refused("\ufffd", 5, dot(3, 9), api.EEXIST))
}

// A text that was cut from a greater one doesn't keep all of it.
func TestWriteKeepsNoMemory(t *testing.T) {
	whole := long(1000)
	l := of(t, whole[10:20], 5, dot(3, 9))
	x, _ := l.Value()
	from, place := uintptr(unsafe.Pointer(unsafe.StringData(whole))), uintptr(unsafe.Pointer(unsafe.StringData(x)))
	if place >= from && place < from+uintptr(len(whole)) {
		t.Errorf("R4: what was written is kept, not a copy of it")
	}
}

// Later calls change no earlier answer, nor does what happens to the bytes of which a text was made.
func TestAnswersStay(t *testing.T) {
	b := []byte("ab")
	l := of(t, string(b), 5, dot(3, 9))
	x, ok := l.Value()
	time, d := l.When()
	clear(b)
	tell(t, l, is("other", 6, dot(4, 10)), refused("more", 6, dot(4, 10), api.EEXIST))
	if x != "ab" || !ok || time != 5 || d != dot(3, 9) {
		t.Errorf("R4: later calls changed earlier answers: %q, %v, %d, %v", x, ok, time, d)
	}
	_, d = l.When()
	d.Rep, d.N = 0, 0
	holds(t, "behind what was done to answers", l, written{"other", true, 6, dot(4, 10)})
}

// Two are apart: what is written to one is not written to the other.
func TestApart(t *testing.T) {
	a, b := of(t, "a", 5, dot(0, 1)), of(t, "b", 5, dot(0, 1))
	tell(t, a, is("c", 6, dot(0, 1)))
	tell(t, b, not("b", 5, dot(0, 1)), is("d", 5, dot(0, 2)))
	holds(t, "one", a, written{"c", true, 6, dot(0, 1)})
	holds(t, "the other", b, written{"d", true, 5, dot(0, 2)})
	if bytes.Equal(a.Put(nil), b.Put(nil)) || last.Same(a, b) {
		t.Errorf("P11.1: two that are apart are Same")
	}
}
