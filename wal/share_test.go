package wal_test

import (
	"bytes"
	"fmt"
	"slices"
	"testing"

	"rostrum/api"
)

// roomy is a text's bytes, with marked spare room behind them.
func roomy(s string) []byte {
	b := append([]byte(s), "-spare-room-"...)
	return b[:len(s)]
}

// whole is a list with its spare room.
func whole[T any](list []T) []T { return list[:cap(list)] }

// scrawl overwrites bytes, their spare room too.
func scrawl(b []byte) {
	b = whole(b)
	for i := range b {
		b[i] = '#'
	}
}

func TestArgumentsAreNotChanged(t *testing.T) {
	for _, part := range []int{1, 2, 1000} {
		l := opened(t, made(t, 10000), part)
		recs := make([][]byte, 3, 6)
		for i := range whole(recs) {
			whole(recs)[i] = roomy(fmt.Sprint("rec", i))
		}
		base := roomy("base")
		before := fmt.Sprintf("%q %q", whole(recs), base)
		var rooms [][]byte
		for _, rec := range whole(recs) {
			rooms = append(rooms, bytes.Clone(whole(rec)))
		}
		must(t, "P6.1: Add", l.Add(recs...), api.OK)
		must(t, "P6.1: Add", l.Add(recs...), api.OK)
		must(t, "P6.1: Keep", l.Keep(base), api.OK)
		must(t, "P6.1: Add", l.Add(recs[:2]...), api.OK)
		if got := fmt.Sprintf("%q %q", whole(recs), base); got != before {
			t.Errorf("R4: what was handed in is %s, was %s", got, before)
		}
		for i, rec := range whole(recs) {
			if !bytes.Equal(whole(rec), rooms[i]) {
				t.Errorf("R4: a record's spare room is changed: %q, was %q", whole(rec), rooms[i])
			}
		}
		if !bytes.Equal(whole(base)[:len("base-spare-room-")], []byte("base-spare-room-")) {
			t.Errorf("R4: the base's spare room is changed: %q", whole(base))
		}
	}
}

func TestArgumentsAreNotKept(t *testing.T) {
	for _, part := range []int{1, 2, 1000} {
		d := made(t, 10000)
		l := opened(t, d, part)
		base := roomy("base")
		recs := [][]byte{roomy("one"), roomy(""), roomy("three")}
		must(t, "P6.1: Keep", l.Keep(base), api.OK)
		must(t, "P6.1: Add", l.Add(recs...), api.OK)
		must(t, "P6.1: Add", l.Add(recs[0]), api.OK)
		for _, rec := range recs {
			scrawl(rec)
		}
		scrawl(base)
		clear(recs)
		check(t, "R4: what was handed in is overwritten", l, "base", "one", "", "three", "one")
		add(t, l, "five")
		want := []string{"one", "", "three", "one", "five"}
		check(t, "R4: what was handed in is overwritten, opened again", opened(t, d, part), "base", want...)
	}
}

func TestAnswersShareNothing(t *testing.T) {
	for _, part := range []int{1, 2, 1000} {
		for _, reopen := range []bool{false, true} {
			d := made(t, 10000)
			l := opened(t, d, part)
			must(t, "P6.1: Keep", l.Keep([]byte("base")), api.OK)
			same := []byte("same")
			must(t, "P6.1: Add", l.Add(same, same, []byte("x"), nil), api.OK)
			if reopen {
				l = opened(t, d, part)
			}
			recs := []string{"same", "same", "x", ""}
			for range 3 {
				other, otherBase := l.All(), l.Base()
				all, base := l.All(), l.Base()
				scrawl(base)
				for i := range all {
					scrawl(all[i])
					if rest := texts(all[i+1:]); !slices.Equal(rest, recs[i+1:]) {
						t.Errorf("R4: record %d shares memory with %q", i, rest)
					}
				}
				for i := range whole(all) {
					whole(all)[i] = same
				}
				if got := told(string(otherBase), texts(other)); got != told("base", recs) {
					t.Errorf("R4: an answer shares memory with another: %s", got)
				}
				check(t, "R4: answers are overwritten", l, "base", recs...)
			}
			add(t, l, "y")
			check(t, "R4: answers are overwritten", l, "base", append(recs, "y")...)
			check(t, "R4: answers are overwritten, opened again", opened(t, d, part), "base", append(recs, "y")...)
		}
	}
}

// An answer is not changed by what is asked later.
func TestAnswersStay(t *testing.T) {
	d := made(t, 10000)
	l := opened(t, d, 2)
	must(t, "P6.1: Keep", l.Keep([]byte("base")), api.OK)
	add(t, l, "a", "b")
	all, base := l.All(), l.Base()
	add(t, l, "c")
	must(t, "P6.1: Keep", l.Keep([]byte("new!")), api.OK)
	add(t, l, "d", "e")
	fall(t, d, 2, 0, 0)
	if got := told(string(base), texts(all)); got != told("base", []string{"a", "b"}) {
		t.Errorf("R4: an answer is changed by later calls: %s", got)
	}
}
