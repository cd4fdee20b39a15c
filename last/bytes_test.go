package last_test

import (
	"bytes"
	"fmt"
	"math"
	"slices"
	"testing"

	"rostrum/api"
	"rostrum/last"
	"rostrum/pack"
)

// putBy is the bytes of a value, by pack, whatever they are of.
func putBy(kind, time, rep, n int64, x string) []byte {
	var b []byte
	for _, number := range []int64{kind, time, rep, n} {
		b = pack.Num(b, number)
	}
	return pack.Text(b, x)
}

func TestPutByHand(t *testing.T) {
	for _, c := range []struct {
		l    *last.Last
		want string
	}{
		{last.New(), "\x00"},
		{tell(t, last.New(), refused("v", 5, dot(7, 1), api.EARG)), "\x00"},
		{of(t, "", 0, dot(0, 1)), "\x02\x00\x00\x02\x00"},
		{of(t, "ab", 3, dot(2, 150)), "\x02\x06\x04\xac\x02\x04ab"},
		{of(t, "\x00\xff", 64, dot(6, 1)), "\x02\x80\x01\x0c\x02\x04\x00\xff"},
		{of(t, long(100), most, dot(6, most)), "\x02\x80\x80\x80\x80\x80\x40\x0c\x80\x80\x80\x80\x80\x40\xc8\x01" + long(100)},
		{tell(t, of(t, "a", 5, dot(3, 9)), not("b", 4, dot(4, 1)), refused("c", 5, dot(3, 9), api.EEXIST)), "\x02\x0a\x06\x12\x02a"},
	} {
		for _, ahead := range []string{"", "ab", "\x80", "\x00\x00", long(300)} {
			if got := c.l.Put([]byte(ahead)); string(got) != ahead+c.want {
				t.Errorf("P11.1: Put behind %.10q: %q, want %q", ahead, got, ahead+c.want)
			}
		}
		if got := c.l.Put(nil); string(got) != c.want {
			t.Errorf("P11.1: Put behind nil: %q, want %q", got, c.want)
		}
	}
}

func TestPutMemory(t *testing.T) {
	for what, l := range grounds(t) {
		value := have(t, l)
		told := l.Put(nil)
		for _, room := range []int{0, 1, len(told) - 1, len(told), 200} {
			whole := bytes.Repeat([]byte{77}, 5+room)
			kept := bytes.Clone(whole)
			got := l.Put(whole[:5])
			if !bytes.Equal(whole, kept) {
				t.Errorf("R4: Put of %s changed what it was handed, spare room %d", what, room)
			}
			clear(whole)
			if !bytes.Equal(got, slices.Concat(kept[:5], told)) {
				t.Errorf("R4: Put's answer of %s lies in what it was handed, spare room %d", what, room)
			}
			copy(whole, kept)
			spoil(got)
			if !bytes.Equal(whole, kept) {
				t.Errorf("R4: Put's spare room of %s lies in what it was handed, spare room %d", what, room)
			}
			if again := l.Put(nil); !bytes.Equal(again, told) {
				t.Errorf("R5: Put of %s answers otherwise the second time: %v, %v", what, again, told)
			}
		}
		holds(t, "behind Put of "+what, l, value)
	}
}

// spoil writes over an answer, its spare room included.
func spoil(answer []byte) {
	answer = answer[:cap(answer)]
	for i := range answer {
		answer[i] = 5
	}
}

// A later call changes no earlier answer, and no two answers share memory.
func TestPutStays(t *testing.T) {
	for what, l := range grounds(t) {
		value := have(t, l)
		one, two := l.Put(nil), l.Put(nil)
		want := bytes.Clone(two)
		spoil(one)
		if !bytes.Equal(two, want) {
			t.Errorf("R4: two answers of Put of %s share memory: % x", what, two)
		}
		holds(t, "behind what was done to an answer of Put of "+what, l, value)
	}
	l := of(t, "ab", 5, dot(3, 9))
	told := l.Put(nil)
	tell(t, l, is("cd", 6, dot(4, 10)))
	l.Put(nil)
	if !bytes.Equal(told, putBy(1, 5, 3, 9, "ab")) {
		t.Errorf("R4: a later Write changed an earlier answer of Put: % x", told)
	}
}

// readWell tells whether Get reads what Put wrote, and no further.
func readWell(t *testing.T, l *last.Last) {
	t.Helper()
	want := have(t, l)
	r := pack.Read(l.Put(nil))
	got := last.Get(r)
	if got == nil || r.Bad() || !r.End() {
		t.Fatalf("P11.1: Get of %v: %v, Bad %v, End %v", want, got, r.Bad(), r.End())
	}
	holds(t, "Get", got, want)
	if !last.Same(got, l) || !bytes.Equal(got.Put(nil), l.Put(nil)) {
		t.Errorf("P11.1: Get of %v: not Same", want)
	}
	r = pack.Read(append(l.Put(nil), 10, 255))
	if got = last.Get(r); got == nil || !last.Same(got, l) || r.Bad() || r.End() || r.Num(5, 5) != 5 || r.Bad() {
		t.Errorf("P11.1: Get of %v with bytes behind it", want)
	}
	r = pack.Read(l.Put(l.Put(pack.Num(nil, 9))))
	if r.Num(9, 9) != 9 {
		t.Fatalf("P4.1: the number ahead is not read")
	}
	one, two := last.Get(r), last.Get(r)
	if one == nil || two == nil || !r.End() || !last.Same(one, l) || !last.Same(two, l) {
		t.Errorf("P11.1: Get of %v in a row reads too far or not far enough", want)
	}
}

func TestGet(t *testing.T) {
	readWell(t, last.New())
	for _, x := range goodTexts() {
		readWell(t, of(t, x, 5, dot(3, 9)))
	}
	for _, time := range goodTimes() {
		for _, d := range goodDots() {
			readWell(t, of(t, "", time, d))
			readWell(t, of(t, "ab", time, d))
		}
	}
}

// isBad tells whether Get answers nil and its reader is bad then, for ever.
func isBad(t *testing.T, what string, r *pack.Reader) {
	t.Helper()
	for range 2 {
		if got := last.Get(r); got != nil {
			t.Errorf("P11.1: Get, %s: %v", what, have(t, got))
		}
		if !r.Bad() || r.End() || r.Num(0, math.MaxInt64) != 0 || r.Num(5, 9) != 0 {
			t.Errorf("P11.1: Get, %s: the reader is not bad", what)
		}
	}
}

// isBadBoth asks it also with something good behind it.
func isBadBoth(t *testing.T, what string, b []byte) {
	t.Helper()
	isBad(t, what, pack.Read(b))
	isBad(t, what+", more behind", pack.Read(append(b, putBy(1, 5, 3, 9, "ab")...)))
}

func TestGetWrongNumbers(t *testing.T) {
	for _, kind := range []int64{lowest, -2, -1, 2, 3, 64, most, highest} {
		isBadBoth(t, fmt.Sprintf("a first number of %d", kind), putBy(kind, 5, 3, 9, "ab"))
		isBadBoth(t, fmt.Sprintf("a first number of %d alone", kind), pack.Num(nil, kind))
	}
	for _, time := range badTimes() {
		isBadBoth(t, fmt.Sprintf("a time of %d", time), putBy(1, time, 3, 9, "ab"))
	}
	for _, rep := range badReps() {
		isBadBoth(t, fmt.Sprintf("a Rep of %d", rep), putBy(1, 5, int64(rep), 9, "ab"))
	}
	// A number that is cut to fewer bits would be one of a replica.
	for _, rep := range []int64{1 << 8, 1 << 16, 1 << 32, 1<<32 + 3, lowest + 3} {
		isBadBoth(t, fmt.Sprintf("a Rep of %d", rep), putBy(1, 5, rep, 9, "ab"))
	}
	for _, n := range badNs() {
		isBadBoth(t, fmt.Sprintf("an N of %d", n), putBy(1, 5, 3, n, "ab"))
	}
}

func TestGetWrongText(t *testing.T) {
	for _, x := range badTexts() {
		isBadBoth(t, fmt.Sprintf("a text of %d bytes", len(x)), putBy(1, 5, 3, 9, x))
	}
	head := putBy(1, 5, 3, 9, "")
	head = head[:len(head)-1]
	for _, length := range []int64{lowest, -100, -2, -1, 101, 102, most, highest} {
		isBad(t, fmt.Sprintf("a text's length of %d", length), pack.Read(slices.Concat(head, pack.Num(nil, length), []byte(long(200)))))
	}
}

func TestGetTooFew(t *testing.T) {
	isBad(t, "no bytes", pack.Read(nil))
	for what, l := range grounds(t) {
		b := l.Put(nil)
		for length := range b {
			isBad(t, fmt.Sprintf("%d of %d bytes of %s", length, len(b), what), pack.Read(b[:length]))
		}
	}
}

func TestGetNotAsTold(t *testing.T) {
	isBad(t, "none in too many groups", pack.Read([]byte{128, 0}))
	b := putBy(1, 5, 3, 9, "ab")
	for place := range 5 {
		long := slices.Insert(bytes.Clone(b), place+1, 0)
		long[place] |= 128
		isBad(t, fmt.Sprintf("number %d in too many groups", place), pack.Read(long))
	}
}

func TestGetOfBadReader(t *testing.T) {
	for what, l := range grounds(t) {
		r := pack.Read(append([]byte{1}, l.Put(nil)...))
		r.Num(0, 0)
		isBad(t, "a reader that was bad, of "+what, r)
	}
}

// None is none: what stands behind the nought is not read.
func TestGetOfNone(t *testing.T) {
	r := pack.Read([]byte("\x00\x0a\x06\x12\x02a"))
	got := last.Get(r)
	if got == nil || r.Bad() || r.Num(5, 5) != 5 || r.Num(3, 3) != 3 || r.Num(9, 9) != 9 || r.Text(1) != "a" || !r.End() {
		t.Fatalf("P11.1: Get of none reads too far")
	}
	holds(t, "Get of none", got, none())
	tell(t, got, is("", 0, dot(0, 1)))
}

// What is read is one like any other, and keeps nothing of what it was read from.
func TestGetKeepsNothing(t *testing.T) {
	b := putBy(1, 5, 3, 9, "ab")
	kept := bytes.Clone(b)
	r, single := pack.Read(slices.Concat(b, b)), pack.Read(b)
	one, two, three := last.Get(r), last.Get(r), last.Get(single)
	if !bytes.Equal(b, kept) || one == nil || two == nil || three == nil {
		t.Fatalf("P11.1: Get twice")
	}
	clear(b)
	tell(t, one, not("ab", 5, dot(3, 9)), refused("c", 5, dot(3, 9), api.EEXIST), not("c", 5, dot(3, 8)), is("c", 5, dot(3, 10)))
	holds(t, "what was read then", two, written{"ab", true, 5, dot(3, 9)})
	holds(t, "what was read from bytes that were changed", three, written{"ab", true, 5, dot(3, 9)})
}

func TestSame(t *testing.T) {
	alike := []*last.Last{
		of(t, "ab", 5, dot(3, 9)),
		tell(t, last.New(), is("c", 4, dot(6, 10)), is("d", 5, dot(2, 10)), is("ab", 5, dot(3, 9))),
		tell(t, last.New(), is("d", 5, dot(2, 10)), is("ab", 5, dot(3, 9)), not("c", 4, dot(6, 10))),
		tell(t, of(t, "ab", 5, dot(3, 9)), not("ab", 5, dot(3, 9)), refused("c", 5, dot(3, 9), api.EEXIST), refused(long(101), 6, dot(3, 9), api.EARG)),
		last.Get(pack.Read(putBy(1, 5, 3, 9, "ab"))),
	}
	others := []*last.Last{
		last.New(), of(t, "", 0, dot(0, 1)), of(t, "aB", 5, dot(3, 9)), of(t, "", 5, dot(3, 9)), of(t, "ab\x00", 5, dot(3, 9)),
		of(t, "ab", 4, dot(3, 9)), of(t, "ab", 6, dot(3, 9)), of(t, "ab", 5, dot(2, 9)), of(t, "ab", 5, dot(4, 9)),
		of(t, "ab", 5, dot(3, 8)), of(t, "ab", 5, dot(3, 10)), of(t, "ab", 3, dot(5, 9)), of(t, "ab", 5, dot(6, 9)), of(t, "ab", 9, dot(3, 5)),
	}
	for i, a := range alike {
		for j, b := range alike {
			if !last.Same(a, b) || !bytes.Equal(a.Put(nil), b.Put(nil)) {
				t.Errorf("P11.1: number %d and %d are not Same: %v, %v", i, j, have(t, a), have(t, b))
			}
		}
		for j, b := range others {
			if last.Same(a, b) || last.Same(b, a) {
				t.Errorf("P11.1: number %d and the other %d are Same: %v, %v", i, j, have(t, a), have(t, b))
			}
		}
		holds(t, "behind Same", a, written{"ab", true, 5, dot(3, 9)})
	}
	for i, a := range others {
		for j, b := range others {
			if last.Same(a, b) != (i == j) {
				t.Errorf("P11.1: of the others %d and %d: Same %v", i, j, i != j)
			}
		}
	}
}

func TestSameOfNone(t *testing.T) {
	a := tell(t, last.New(), refused("v", -1, dot(0, 1), api.EARG))
	b := last.Get(pack.Read([]byte{0}))
	if b == nil || !last.Same(last.New(), last.New()) || !last.Same(a, last.New()) || !last.Same(last.New(), a) || !last.Same(a, b) || !last.Same(a, a) {
		t.Errorf("P11.1: none and none are not Same")
	}
	least := of(t, "", 0, dot(0, 1))
	if last.Same(a, least) || last.Same(least, a) || !last.Same(least, of(t, "", 0, dot(0, 1))) {
		t.Errorf("P11.1: Same of none and the least")
	}
}
