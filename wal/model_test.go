package wal_test

import (
	"fmt"
	"math/rand"
	"testing"

	"rostrum/api"
	"rostrum/disk"
	"rostrum/wal"
)

// twin is a disk, its log, and what the chapter asks of it.
type twin struct {
	disk *disk.Disk
	log  *wal.Log
	part int
	want history
	full bool
	off  bool // the log's disk has fallen
}

// take opens the log and holds it against what was asked; what it has is safe then.
func (w *twin) take(t *testing.T, r *rand.Rand, what string, fell bool) {
	t.Helper()
	w.part = 1 + r.Intn(4)
	w.log = opened(t, w.disk, w.part)
	checkFall(t, what, w.log, w.want, 0)
	if !fell {
		check(t, "P6.1: Open without a fall", w.log, w.want.base, w.want.recs...)
	}
	w.want.recs = texts(w.log.All())
	w.want.safe = len(w.want.recs)
	w.full, w.off = false, false
}

// step does one thing by a number; what is random comes from r alone.
func (w *twin) step(t *testing.T, r *rand.Rand, n int) api.Errno {
	t.Helper()
	text := func() string { return fmt.Sprintf("%0*d", 1+r.Intn(12), r.Intn(10)) }
	switch kind := r.Intn(20); {
	case kind < 9:
		var recs []string
		for range r.Intn(4) {
			recs = append(recs, text())
		}
		err := w.log.Add(records(recs...)...)
		if err == api.OK {
			w.want.recs = append(w.want.recs, recs...)
		}
		return err
	case kind < 12:
		err := w.log.Sync()
		if err == api.OK {
			w.want.safe = len(w.want.recs)
		}
		return err
	case kind < 14:
		base := text()
		err := w.log.Keep([]byte(base))
		if err == api.OK {
			w.want = history{base: base}
		}
		return err
	case kind < 16:
		w.disk.Crash(r.Intn(6)-1, r.Intn(60)-1)
		checkDone(t, "without power", w.log, show(w.log))
		w.disk.On()
		w.take(t, r, fmt.Sprintf("step %d, a fall", n), true)
	case kind < 17:
		w.disk.On()
		w.off = true
	default:
		w.take(t, r, fmt.Sprintf("step %d, opened again", n), false)
	}
	return api.OK
}

// checkAnswer holds a call's answer against whether the log was done.
func (w *twin) checkAnswer(t *testing.T, n int, err api.Errno, done bool) {
	t.Helper()
	switch {
	case err == api.EFULL && !done:
		w.full = true
	case done && w.log.Done() && err != api.EOFF && err != api.OK:
		t.Errorf("P6.1: step %d of a log that is done: error %d", n, err)
	case !done && err != api.OK:
		t.Errorf("P6.1: step %d: error %d", n, err)
	}
	if got, want := w.log.Done(), w.full || w.off; got != want {
		t.Errorf("P6.1: step %d: Done is %v, want %v", n, got, want)
	}
	check(t, fmt.Sprintf("P6.1: step %d", n), w.log, w.want.base, w.want.recs...)
}

func TestRandomSteps(t *testing.T) {
	for seed := range 300 {
		room := []int{64, 200, 500, 2000, mostRoom}[seed%5]
		one, other := newTwin(t, room), newTwin(t, room)
		r, s := rand.New(rand.NewSource(int64(seed))), rand.New(rand.NewSource(int64(seed)))
		for n := range 150 {
			done := one.log.Done()
			err := one.step(t, r, n)
			one.checkAnswer(t, n, err, done)
			if again := other.step(t, s, n); again != err || fmt.Sprint(imageOf(other.disk)) != fmt.Sprint(imageOf(one.disk)) {
				t.Errorf("R5: step %d: error %d, and error %d at another log that was told the same", n, err, again)
			}
			if t.Failed() {
				t.Fatalf("seed %d", seed)
			}
		}
	}
}

func newTwin(t *testing.T, room int) *twin {
	d := made(t, room)
	return &twin{disk: d, log: opened(t, d, 2), part: 2}
}
