package tally_test

import (
	"bytes"
	"fmt"
	"math"
	"slices"
	"strings"
	"testing"

	"rostrum/api"
	"rostrum/pack"
	"rostrum/tally"
)

// written is the bytes of fourteen numbers, by pack.
func written(ups, downs numbers) []byte {
	var b []byte
	for _, n := range slices.Concat(ups[:], downs[:]) {
		b = pack.Num(b, n)
	}
	return b
}

// place sets one of the fourteen numbers, of which the first seven are the ups.
func place(ups, downs numbers, i int, n int64) (numbers, numbers) {
	if i < 7 {
		return at(ups, i, n), downs
	}
	return ups, at(downs, i-7, n)
}

// ground is ups and downs in which a test lays another number.
type ground struct{ ups, downs numbers }

func grounds() []ground {
	return []ground{
		{}, {numbers{5}, numbers{6: 3}}, {numbers{1, 2, 3, 4, 5, 6, 7}, numbers{64, 150, 0, 1, 8192, 9, 10}},
		{numbers{most, most, most, most, most, most, most}, numbers{most, most, most, most, most, most, most}},
		{numbers{0, most, 0, 1, most - 1, 9, mostBy + 1}, numbers{mostBy, 0, 1, 63, 64, most, 0}},
	}
}

func TestPutByHand(t *testing.T) {
	const noughts = "\x00\x00\x00\x00\x00\x00\x00"
	for _, c := range []struct {
		x    *tally.Tally
		want string
	}{
		{tally.New(), noughts + noughts},
		{of(t, numbers{5}, numbers{}), "\x0a\x00\x00\x00\x00\x00\x00" + noughts},
		{of(t, numbers{}, numbers{5}), noughts + "\x0a\x00\x00\x00\x00\x00\x00"},
		{of(t, numbers{1, 2, 3, 4, 5, 6, 7}, numbers{8, 9, 10, 11, 12, 63, 64}), "\x02\x04\x06\x08\x0a\x0c\x0e\x10\x12\x14\x16\x18\x7e\x80\x01"},
		{of(t, numbers{6: 150}, numbers{0: most, 6: mostBy}), "\x00\x00\x00\x00\x00\x00\xac\x02" + "\x80\x80\x80\x80\x80\x80\x80\x04\x00\x00\x00\x00\x00\x80\x80\x80\x80\x80\x40"},
	} {
		for _, ahead := range []string{"", "ab", "\x80", "\x00\x00", strings.Repeat("v", 300)} {
			if got := c.x.Put([]byte(ahead)); string(got) != ahead+c.want {
				t.Errorf("P10.1: Put behind %.10q: %q, want %q", ahead, got, ahead+c.want)
			}
		}
		if got := c.x.Put(nil); string(got) != c.want {
			t.Errorf("P10.1: Put behind nil: %q, want %q", got, c.want)
		}
	}
}

func TestPut(t *testing.T) {
	for _, g := range grounds() {
		x, want := of(t, g.ups, g.downs), written(g.ups, g.downs)
		for _, ahead := range [][]byte{nil, {}, {0}, {128}, []byte("ahead"), bytes.Repeat([]byte{255}, 300)} {
			if got := x.Put(ahead); !bytes.Equal(got, slices.Concat(ahead, want)) {
				t.Errorf("P10.1: Put of %v, %v behind %d bytes: % x", g.ups, g.downs, len(ahead), got)
			}
		}
		holds(t, "behind Put", x, g.ups, g.downs)
	}
}

func TestPutMemory(t *testing.T) {
	x := of(t, numbers{1, 2}, numbers{150})
	for _, room := range []int{0, 1, 14, 15, 16, 200} {
		whole := bytes.Repeat([]byte{77}, 5+room)
		kept := bytes.Clone(whole)
		got := x.Put(whole[:5])
		if !bytes.Equal(whole, kept) {
			t.Errorf("R4: Put changed what it was handed, spare room %d", room)
		}
		told := bytes.Clone(got)
		clear(whole)
		if !bytes.Equal(got, told) {
			t.Errorf("R4: Put's answer lies in what it was handed, spare room %d", room)
		}
		copy(whole, kept)
		spoil(got)
		if !bytes.Equal(whole, kept) {
			t.Errorf("R4: Put's spare room lies in what it was handed, spare room %d", room)
		}
		if again := x.Put(kept[:5]); !bytes.Equal(again, told) {
			t.Errorf("R5: Put answers otherwise the second time: %v, %v", again, told)
		}
	}
	holds(t, "behind Put", x, numbers{1, 2}, numbers{150})
}

// spoil writes over an answer, its spare room included.
func spoil(answer []byte) {
	answer = answer[:cap(answer)]
	for i := range answer {
		answer[i] = 5
	}
}

// A later call changes no earlier answer, and no two answers share memory.
func TestPutStays(t *testing.T) {
	x := of(t, numbers{1}, numbers{2})
	one, two := x.Put(nil), x.Put(nil)
	want := written(numbers{1}, numbers{2})
	tell(t, x, step{0, 9, api.OK}, step{1, -9, api.OK})
	x.Put(nil)
	spoil(one)
	if !bytes.Equal(two, want) {
		t.Errorf("R4: an earlier answer of Put is changed: % x", two)
	}
	holds(t, "behind what was done to answers", x, numbers{10}, numbers{2, 9})
}

func TestGet(t *testing.T) {
	for _, g := range grounds() {
		x := of(t, g.ups, g.downs)
		r := pack.Read(x.Put(nil))
		got := tally.Get(r)
		if got == nil || r.Bad() || !r.End() {
			t.Fatalf("P10.1: Get of %v, %v: %v, Bad %v, End %v", g.ups, g.downs, got, r.Bad(), r.End())
		}
		holds(t, "Get", got, g.ups, g.downs)
		if !tally.Same(got, x) || !bytes.Equal(got.Put(nil), x.Put(nil)) {
			t.Errorf("P10.1: Get of %v, %v: not Same", g.ups, g.downs)
		}
	}
}

// Behind Get a reader stands at what comes next, and no further.
func TestGetAmongOthers(t *testing.T) {
	for _, g := range grounds() {
		x := of(t, g.ups, g.downs)
		r := pack.Read(x.Put(x.Put(pack.Num(nil, 9))))
		if r.Num(9, 9) != 9 {
			t.Fatalf("P4.1: the number ahead is not read")
		}
		one, two := tally.Get(r), tally.Get(r)
		if one == nil || two == nil || !r.End() || !tally.Same(one, x) || !tally.Same(two, x) {
			t.Errorf("P10.1: Get of a row reads too far or not far enough")
		}
		r = pack.Read(append(x.Put(nil), 10, 255))
		if got := tally.Get(r); got == nil || !tally.Same(got, x) || r.Bad() || r.End() || r.Num(5, 5) != 5 || r.Bad() {
			t.Errorf("P10.1: Get with bytes behind it")
		}
	}
}

// isBad tells whether Get answers nil and its reader is bad then, for ever.
func isBad(t *testing.T, what string, r *pack.Reader) {
	t.Helper()
	for range 2 {
		if got := tally.Get(r); got != nil {
			t.Errorf("P10.1: Get, %s: %v, %v", what, got.Up(), got.Down())
		}
		if !r.Bad() || r.End() || r.Num(0, math.MaxInt64) != 0 || r.Num(5, 9) != 0 {
			t.Errorf("P10.1: Get, %s: the reader is not bad", what)
		}
	}
}

func TestGetEachNumber(t *testing.T) {
	for _, g := range grounds() {
		for i := range 14 {
			for _, n := range []int64{0, 1, 64, mostBy - 1, mostBy, mostBy + 1, most - 1, most} {
				ups, downs := place(g.ups, g.downs, i, n)
				r := pack.Read(written(ups, downs))
				got := tally.Get(r)
				if got == nil || !r.End() {
					t.Fatalf("P10.1: Get with %d at place %d: nil", n, i)
				}
				holds(t, fmt.Sprintf("Get with %d at place %d", n, i), got, ups, downs)
			}
			for _, n := range []int64{lowest, -most - 1, -most, -2, -1, most + 1, most + 2, 2 * most, highest} {
				b := written(place(g.ups, g.downs, i, n))
				what := fmt.Sprintf("%d at place %d", n, i)
				isBad(t, what, pack.Read(b))
				isBad(t, what+", more behind", pack.Read(append(b, written(g.ups, g.downs)...)))
			}
		}
	}
}

func TestGetTooFew(t *testing.T) {
	for _, g := range grounds() {
		b := written(g.ups, g.downs)
		for length := range b {
			isBad(t, fmt.Sprintf("%d of %d bytes", length, len(b)), pack.Read(b[:length]))
		}
	}
	isBad(t, "no bytes", pack.Read(nil))
}

func TestGetNotAsTold(t *testing.T) {
	b := written(numbers{1, 1, 1, 1, 1, 1, 1}, numbers{1, 1, 1, 1, 1, 1, 1})
	for place := range b {
		long := slices.Insert(slices.Clone(b), place+1, 0)
		long[place] |= 128
		isBad(t, "a number in too many groups", pack.Read(long))
	}
}

func TestGetOfBadReader(t *testing.T) {
	for _, g := range grounds() {
		r := pack.Read(append([]byte{1}, written(g.ups, g.downs)...))
		r.Num(0, 0)
		isBad(t, "a reader that was bad", r)
	}
}

// What is read is a tally like any other, and keeps nothing of what it was read from.
func TestGetKeepsNothing(t *testing.T) {
	ups, downs := numbers{2, 1, most}, numbers{0, 4, 0, 0, most}
	b := written(ups, downs)
	kept := bytes.Clone(b)
	r := pack.Read(slices.Concat(b, b))
	single := pack.Read(b)
	one, two, three := tally.Get(r), tally.Get(r), tally.Get(single)
	if !bytes.Equal(b, kept) || one == nil || two == nil || three == nil {
		t.Fatalf("P10.1: Get twice")
	}
	clear(b)
	tell(t, one, step{2, 1, api.ELIMIT}, step{4, -1, api.ELIMIT}, step{2, 0, api.OK}, step{0, 5, api.OK}, step{1, -5, api.OK})
	holds(t, "what was read first", one, at(ups, 0, 7), at(downs, 1, 9))
	holds(t, "what was read then", two, ups, downs)
	holds(t, "what was read from bytes that were changed", three, ups, downs)
	two.Merge(one)
	holds(t, "Merge of what was read", two, at(ups, 0, 7), at(downs, 1, 9))
}
