package last_test

import (
	"math/rand"
	"testing"

	"rostrum/api"
	"rostrum/last"
)

// model is one by the chapter's words: it keeps the Write that is the value.
type model struct {
	value  step
	filled bool
}

// write is Write by the chapter's words.
func (m *model) write(x string, time int64, d api.Dot) (bool, api.Errno) {
	if len(x) > 100 || time < 0 || time > most || d.Rep < 0 || d.Rep > 6 || d.N < 1 || d.N > most {
		return false, api.EARG
	}
	v := m.value
	if m.filled && time == v.time && d == v.d && x != v.x {
		return false, api.EEXIST
	}
	behind := d.Rep > v.d.Rep || d.Rep == v.d.Rep && d.N > v.d.N
	if m.filled && !(time > v.time || time == v.time && behind) {
		return false, api.OK
	}
	m.value, m.filled = is(x, time, d), true
	return true, api.OK
}

// have is what the model has.
func (m *model) have() written {
	return written{m.value.x, m.filled, m.value.time, m.value.d}
}

// draw is a Write of few times, dots and texts, so that many of them meet, and some are wrong.
func draw(rnd *rand.Rand) (string, int64, api.Dot) {
	pick := func(list ...int64) int64 { return list[rnd.Intn(len(list))] }
	x := []string{"", "a", "b", "\xff", long(100), long(101)}[rnd.Intn(6)]
	return x, pick(0, 1, 1, 2, 2, 2, most, -1, most+1), dot(int(pick(0, 0, 1, 1, 2, 6, 7, -1)), pick(1, 1, 2, 2, 3, most, 0, most+1))
}

func TestManyWrites(t *testing.T) {
	for seed := range int64(300) {
		rnd := rand.New(rand.NewSource(seed))
		l, m := last.New(), &model{}
		for i := range 60 {
			x, time, d := draw(rnd)
			did, err := l.Write(x, time, d)
			wantDid, wantErr := m.write(x, time, d)
			if did != wantDid || err != wantErr || have(t, l) != m.have() {
				t.Fatalf("P11.1: seed %d, step %d, Write(%.10q, %d, %v): %v, %d, %v, want %v, %d, %v",
					seed, i, x, time, d, did, err, have(t, l), wantDid, wantErr, m.have())
			}
		}
	}
}

// orders tells all orders of so many.
func orders(count int) [][]int {
	if count == 0 {
		return [][]int{nil}
	}
	var all [][]int
	for _, order := range orders(count - 1) {
		for place := range count {
			one := append([]int{}, order[:place]...)
			one = append(one, count-1)
			all = append(all, append(one, order[place:]...))
		}
	}
	return all
}

// The same Writes come to the same value in whatever order, if no two of one time and dot have different texts.
func TestEveryOrder(t *testing.T) {
	for _, c := range []struct {
		writes []step
		want   written
	}{
		{[]step{is("a", 5, dot(0, 1)), is("b", 3, dot(1, 1))}, written{"a", true, 5, dot(0, 1)}},
		{[]step{is("z", 5, dot(0, 9)), is("y", 5, dot(1, 8)), is("x", 5, dot(2, 7)), is("w", 4, dot(6, most)), is("v", 0, dot(6, most)), is("u", 5, dot(2, 6))},
			written{"x", true, 5, dot(2, 7)}},
		{[]step{is("a", 5, dot(0, 1)), is("a", 5, dot(0, 1)), is("b", 5, dot(0, 2)), is("b", 5, dot(0, 2)), is("", 0, dot(0, 1)), is("a", 1, dot(0, 2))},
			written{"b", true, 5, dot(0, 2)}},
		{[]step{is("", 0, dot(0, 1)), is("", 0, dot(0, 2)), is("", 0, dot(1, 1)), is("", 1, dot(0, 1))}, written{"", true, 1, dot(0, 1)}},
		{[]step{is("b", most, dot(0, 1)), is("a", most, dot(6, most-1)), is("", most, dot(6, most)), is("d", most-1, dot(6, most)), is("c", most, dot(5, most))},
			written{"", true, most, dot(6, most)}},
	} {
		first := last.New()
		for i, order := range orders(len(c.writes)) {
			l := last.New()
			for _, place := range order {
				one := c.writes[place]
				if _, err := l.Write(one.x, one.time, one.d); err != api.OK {
					t.Errorf("P11.1: Write in order %v: %d", order, err)
				}
			}
			holds(t, "Writes in every order", l, c.want)
			if i == 0 {
				first = l
			}
			if !last.Same(l, first) || string(l.Put(nil)) != string(first.Put(nil)) {
				t.Errorf("P11.1: Writes in order %v are not Same", order)
			}
		}
	}
}
