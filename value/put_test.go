package value_test

import (
	"bytes"
	"slices"
	"strings"
	"testing"

	"rostrum/last"
	"rostrum/orset"
	"rostrum/pack"
	"rostrum/tally"
	"rostrum/value"
)

// put is a value and its bytes, by hand.
type put struct {
	what string
	v    value.Value
	want string
}

func puts(t *testing.T) []put {
	t.Helper()
	none := strings.Repeat("\x00", 14)
	long := strings.Repeat("v", 100)
	twice := orset.New()
	twice.Add(dot(6, 75), "a")
	twice.Add(dot(2, 1), "a")
	return []put{
		{"nil", nil, ""},
		{"a Set of nil", value.Set{}, ""},
		{"a Number of nil", value.Number{}, ""},
		{"a Text of nil", value.Text{}, ""},
		{"an alien", alien(1), ""},
		{"an empty Set", value.Set{S: orset.New()}, "\x02\x00"},
		{"a Set of one", value.Set{S: set(t, "x")}, "\x02\x02\x02x\x02\x00\x02"},
		{"a Set of two", value.Set{S: set(t, "b", "a")}, "\x02\x04\x02a\x02\x00\x04\x02b\x02\x00\x02"},
		{"a Set of one by two dots", value.Set{S: twice}, "\x02\x02\x02a\x04\x04\x02\x0c\x96\x01"},
		{"a Number of nought", value.Number{T: tally.New()}, "\x04" + none},
		{"a Number above", value.Number{T: number(t, 75, 2)}, "\x04\x96\x01\x04" + none[2:]},
		{"a Number below", value.Number{T: number(t, 0, -3)}, "\x04" + none[6:] + "\x06" + none[9:]},
		{"a Text without a value", value.Text{L: last.New()}, "\x06\x00"},
		{"a Text with an empty one", value.Text{L: text(t, "")}, "\x06\x02\x00\x06\x12\x00"},
		{"a Text", value.Text{L: text(t, "x", "ab")}, "\x06\x02\x02\x06\x12\x04ab"},
		{"a long Text", value.Text{L: text(t, long)}, "\x06\x02\x00\x06\x12\xc8\x01" + long},
	}
}

func TestPutByHand(t *testing.T) {
	for _, c := range puts(t) {
		for _, ahead := range aheads() {
			if got := value.Put([]byte(ahead), c.v); string(got) != ahead+c.want {
				t.Errorf("P12.1: Put of %s behind %.10q: %q, want %q", c.what, ahead, got, ahead+c.want)
			}
		}
		if got := value.Put(nil, c.v); string(got) != c.want {
			t.Errorf("P12.1: Put of %s behind nil: %q, want %q", c.what, got, c.want)
		}
	}
}

// Behind its kind stands what the kind's own Put writes.
func TestPutOfKinds(t *testing.T) {
	s, n, l := set(t, "c", "a", "b"), number(t, 1, -2, 3, -4, 5, -6, 7, 8), text(t, "x", "y")
	for _, ahead := range aheads() {
		b := []byte(ahead)
		for want, v := range map[string]value.Value{
			string(s.Put(pack.Num(b, 1))): value.Set{S: s},
			string(n.Put(pack.Num(b, 2))): value.Number{T: n},
			string(l.Put(pack.Num(b, 3))): value.Text{L: l},
		} {
			if got := value.Put(b, v); string(got) != want {
				t.Errorf("P12.1: Put of kind %d behind %.10q: %q, want %q", v.Kind(), ahead, got, want)
			}
		}
	}
}

// What is written is read again by those below.
func TestPutIsRead(t *testing.T) {
	n, l := number(t, 5, -2), text(t, "ab")
	r := pack.Read(value.Put(value.Put(nil, value.Number{T: n}), value.Text{L: l}))
	if r.Num(2, 2) != 2 || !tally.Same(tally.Get(r), n) || r.Num(3, 3) != 3 || !last.Same(last.Get(r), l) || !r.End() {
		t.Errorf("P12.1: a Number and a Text, one behind the other, are not read again")
	}
}

// spoil writes over an answer, its spare room included.
func spoil(answer []byte) {
	answer = answer[:cap(answer)]
	for i := range answer {
		answer[i] = 5
	}
}

func TestPutMemory(t *testing.T) {
	for _, c := range puts(t) {
		for _, room := range []int{0, 1, len(c.want), len(c.want) + 1, 300} {
			whole := bytes.Repeat([]byte{77}, 5+room)
			kept := bytes.Clone(whole)
			got := value.Put(whole[:5], c.v)
			if !bytes.Equal(whole, kept) {
				t.Errorf("R4: Put of %s changed what it was handed, spare room %d", c.what, room)
			}
			clear(whole)
			if !bytes.Equal(got, slices.Concat(kept[:5], []byte(c.want))) {
				t.Errorf("R4: Put's answer of %s lies in what it was handed, spare room %d", c.what, room)
			}
			copy(whole, kept)
			spoil(got)
			if !bytes.Equal(whole, kept) {
				t.Errorf("R4: Put's spare room of %s lies in what it was handed, spare room %d", c.what, room)
			}
		}
		none := make([]byte, 300)
		spoil(value.Put(none[:0], c.v))
		if !bytes.Equal(none, make([]byte, 300)) {
			t.Errorf("R4: Put's answer of %s behind no bytes lies in what it was handed", c.what)
		}
	}
}

// No two answers share memory, and no later call changes an earlier answer.
func TestPutStays(t *testing.T) {
	for _, c := range puts(t) {
		shown := value.Show(c.v)
		one, two := value.Put([]byte("x"), c.v), value.Put([]byte("x"), c.v)
		spoil(one)
		if string(two) != "x"+c.want {
			t.Errorf("R4: two answers of Put of %s share memory: %q", c.what, two)
		}
		if got := value.Put(nil, c.v); string(got) != c.want {
			t.Errorf("R4: what was done to an answer of Put of %s changed it: %q", c.what, got)
		}
		if got := value.Show(c.v); got != shown {
			t.Errorf("R4: Put changed %s: %q, was %q", c.what, got, shown)
		}
	}
	n := number(t, 5)
	v := value.Number{T: n}
	told, shown := value.Put(nil, v), value.Show(v)
	want := bytes.Clone(told)
	n.Add(0, 3)
	if value.Show(v) != "8" || shown != "5" || !bytes.Equal(told, want) {
		t.Errorf("R4: a later Add: %q, earlier %q, %q", value.Show(v), shown, told)
	}
}

// No call changes what a value has within.
func TestAskingChangesNothing(t *testing.T) {
	s, n, l := set(t, "b", "a"), number(t, 5, -2), text(t, "x")
	were := [3]string{string(s.Put(nil)), string(n.Put(nil)), string(l.Put(nil))}
	for _, v := range []value.Value{value.Set{S: s}, value.Number{T: n}, value.Text{L: l}} {
		ask(v)
		panicOf(v)
		value.Show(v)
		value.Put([]byte("ab"), v)
	}
	if got := [3]string{string(s.Put(nil)), string(n.Put(nil)), string(l.Put(nil))}; got != were {
		t.Errorf("R4: behind all calls: %q, were %q", got, were)
	}
}
