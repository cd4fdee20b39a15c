package value_test

import (
	"fmt"
	"math/rand"
	"slices"
	"strconv"
	"strings"
	"testing"

	"rostrum/api"
	"rostrum/orset"
	"rostrum/tally"
	"rostrum/value"
	"rostrum/vec"
)

// shows asks twice, since asking changes nothing.
func shows(t *testing.T, what string, v value.Value, want string) {
	t.Helper()
	for range 2 {
		if got := value.Show(v); got != want {
			t.Errorf("P12.1: Show of %s: %q, want %q", what, got, want)
		}
	}
}

func TestShowSet(t *testing.T) {
	hundred := strings.Repeat("v", 100)
	for _, c := range []struct {
		texts []string
		want  string
	}{
		{nil, ""},
		{[]string{""}, ""},
		{[]string{"a"}, "a"},
		{[]string{"a", "a"}, "a"},
		{[]string{"b", "a"}, "a,b"},
		{[]string{"", "a"}, ",a"},
		{[]string{"b", "", "a"}, ",a,b"},
		{[]string{"c", "a", "b", "a"}, "a,b,c"},
		{[]string{"10", "9", "1"}, "1,10,9"},
		{[]string{"b", "B", "a", "A", "aa"}, "A,B,a,aa,b"},
		{[]string{"a,b", "c"}, "a,b,c"},
		{[]string{","}, ","},
		{[]string{"é", "z", "\xff", "\x00"}, "\x00,z,é,\xff"},
		{[]string{"a|b\nc", " "}, " ,a|b\nc"},
		{[]string{hundred, "w"}, hundred + ",w"},
	} {
		shows(t, fmt.Sprintf("a Set of %q", c.texts), value.Set{S: set(t, c.texts...)}, c.want)
	}
}

// What was taken away is not shown.
func TestShowSetLess(t *testing.T) {
	s := set(t, "b", "a", "c")
	v := value.Set{S: s}
	for _, c := range []struct {
		x    string
		seen vec.Vec
		want string
	}{
		{"a", vec.Vec{}, "a,b,c"},
		{"a", vec.Vec{2}, "b,c"},
		{"c", vec.Vec{3}, "b"},
		{"b", vec.Vec{3}, ""},
	} {
		if err := s.Remove(c.x, c.seen); err != api.OK {
			t.Fatalf("P9.1: Remove of %q: %d", c.x, err)
		}
		shows(t, "a Set, behind Remove of "+c.x, v, c.want)
	}
}

func TestShowNumber(t *testing.T) {
	const by = 1099511627776 // 2^40
	for _, c := range []struct {
		counts []int64
		want   string
	}{
		{nil, "0"},
		{[]int64{0}, "0"},
		{[]int64{5, -5}, "0"},
		{[]int64{1}, "1"},
		{[]int64{-1}, "-1"},
		{[]int64{5, -2}, "3"},
		{[]int64{2, -9}, "-7"},
		{[]int64{10, 0, 0, 0, 0, 0, 90}, "100"},
		{[]int64{-10, 0, 0, 0, 0, 0, -990}, "-1000"},
		{[]int64{by}, "1099511627776"},
		{[]int64{-by}, "-1099511627776"},
	} {
		shows(t, fmt.Sprintf("a Number of %v", c.counts), value.Number{T: number(t, c.counts...)}, c.want)
	}
}

// All replicas have counted as far as they may.
func TestShowNumberMost(t *testing.T) {
	for by, want := range map[int64]string{1 << 40: "7881299347898368", -1 << 40: "-7881299347898368"} {
		n := tally.New()
		for i := range 1024 * api.MaxReps {
			if err := n.Add(i%api.MaxReps, by); err != api.OK {
				t.Fatalf("P10.1: Add number %d of %d: %d", i, by, err)
			}
		}
		shows(t, "a Number at its edge", value.Number{T: n}, want)
	}
}

func TestShowText(t *testing.T) {
	hundred := strings.Repeat("é", 50)
	for _, c := range []struct {
		texts []string
		want  string
	}{
		{nil, ""},
		{[]string{""}, ""},
		{[]string{"a"}, "a"},
		{[]string{"a", ""}, ""},
		{[]string{"b", "a"}, "a"},
		{[]string{"a,b|c\n"}, "a,b|c\n"},
		{[]string{"\x00\xff"}, "\x00\xff"},
		{[]string{"-007"}, "-007"},
		{[]string{hundred}, hundred},
	} {
		shows(t, fmt.Sprintf("a Text of %q", c.texts), value.Text{L: text(t, c.texts...)}, c.want)
	}
}

func TestExample(t *testing.T) {
	v, err := value.New(2)
	if _, ok := v.(value.Number); !ok || err != api.OK || value.Show(v) != "0" {
		t.Errorf("P12.1: the chapter's example: %v, %d", v, err)
	}
}

// model is a simple set, number and text.
type model struct {
	texts []string
	sum   int64
	text  string
}

// add tells a step to all three.
func (m *model) add(x string, by int64) {
	if !slices.Contains(m.texts, x) {
		m.texts = append(m.texts, x)
		slices.Sort(m.texts)
	}
	m.sum += by
	m.text = x
}

func TestShowModel(t *testing.T) {
	random := rand.New(rand.NewSource(12))
	for range 50 {
		var m model
		s, n, l := orset.New(), tally.New(), text(t)
		for i := range 40 {
			x, by := strconv.Itoa(random.Intn(25)), random.Int63n(2001)-1000
			m.add(x, by)
			d := dot(random.Intn(api.MaxReps), int64(i+1))
			if s.Add(d, x) != api.OK || n.Add(d.Rep, by) != api.OK {
				t.Fatalf("P9.1, P10.1: Add of %q, %d", x, by)
			}
			if did, err := l.Write(x, int64(i), d); !did || err != api.OK {
				t.Fatalf("P11.1: Write of %q: %d", x, err)
			}
			shows(t, "a Set", value.Set{S: s}, strings.Join(m.texts, ","))
			shows(t, "a Number", value.Number{T: n}, fmt.Sprint(m.sum))
			shows(t, "a Text", value.Text{L: l}, m.text)
		}
	}
}
