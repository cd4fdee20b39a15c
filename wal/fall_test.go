package wal_test

import (
	"fmt"
	"math"
	"strings"
	"testing"

	"rostrum/api"
	"rostrum/disk"
	"rostrum/wal"
)

// history is what was asked of a log, and how much of it is safe.
type history struct {
	base string
	recs []string
	safe int
	each bool // each Add behind the last Sync or Keep was of one record
}

// play asks a log for what a text tells, letter by letter: a an Add of one
// record, b of three, s a Sync, k a Keep, o another Open.
func play(t *testing.T, d *disk.Disk, part int, steps string) (*wal.Log, history) {
	t.Helper()
	l := opened(t, d, part)
	h := history{each: true}
	for i, c := range steps {
		text := strings.Repeat(fmt.Sprint(i), 1+i%4)
		switch c {
		case 'a':
			add(t, l, text)
			h.recs = append(h.recs, text)
		case 'b':
			add(t, l, text, "", text+"!")
			h.recs, h.each = append(h.recs, text, "", text+"!"), false
		case 's':
			must(t, "P6.1: Sync", l.Sync(), api.OK)
			h.safe, h.each = len(h.recs), true
		case 'k':
			must(t, "P6.1: Keep", l.Keep([]byte("base"+text)), api.OK)
			h = history{base: "base" + text, each: true}
		case 'o':
			l = opened(t, d, part)
			h.safe, h.each = len(h.recs), true
		}
	}
	return l, h
}

// checkFall holds what a log has behind a fall against what was asked of it.
func checkFall(t *testing.T, what string, l *wal.Log, h history, keep int) {
	t.Helper()
	if got := string(l.Base()); got != h.base {
		t.Errorf("P6.2: %s: the base is %q, want %q", what, got, h.base)
	}
	recs := texts(l.All())
	if !beginning(h.recs, recs) {
		t.Errorf("P6.2: %s: %q is no beginning of %q", what, recs, h.recs)
	}
	want := h.safe
	if h.each {
		// Each record is one write, so that those that stay whole are there.
		want += min(max(keep, 0), len(h.recs)-h.safe)
	}
	if len(recs) < want {
		t.Errorf("P6.2: %s: %d records, want at least %d of %q", what, len(recs), want, h.recs)
	}
}

// checkGoingOn adds to a log that was opened behind a fall, and lets the disk fall again.
func checkGoingOn(t *testing.T, what string, d *disk.Disk, l *wal.Log, part, torn int) {
	t.Helper()
	before := show(l)
	l = fall(t, d, part, 0, 0)
	if got := show(l); got != before {
		t.Errorf("P6.2: %s: at the next fall %s is left of %s", what, got, before)
	}
	base, recs := string(l.Base()), texts(l.All())
	add(t, l, "new")
	must(t, "P6.1: Sync", l.Sync(), api.OK)
	add(t, l, "more")
	l = fall(t, d, part, 0, torn)
	recs = append(recs, "new")
	if got := show(l); got != told(base, recs) && got != told(base, append(recs, "more")) {
		t.Errorf("P6.2: %s: behind Add, Sync, Add, Crash(0, %d): %s", what, torn, got)
	}
	before = show(l)
	must(t, "P6.1: Keep behind falls", l.Keep([]byte(before)), api.OK)
	check(t, "P6.2: Keep behind falls", fall(t, d, part, 0, 0), before)
}

func TestFalls(t *testing.T) {
	for _, steps := range []string{
		"", "a", "aaa", "aaaa", "as", "aas", "asa", "aasaaa", "asasaa", "b", "bs", "bsb", "absba", "sa",
		"k", "ka", "kaaa", "kasaa", "akb", "aaskas", "kk", "kakaa", "bskabsba", "aoa", "aaoba", "kaoaa",
	} {
		for part := 1; part <= 4; part++ {
			d := made(t, mostRoom)
			_, h := play(t, d, part, steps)
			keeps, torns := len(h.recs)-h.safe+1, 3*50
			for keep := range keeps {
				for torn := range torns {
					d := made(t, mostRoom)
					_, h := play(t, d, part, steps)
					what := fmt.Sprintf("%s in parts of %d, Crash(%d, %d)", steps, part, keep, torn)
					l := fall(t, d, part, keep, torn)
					checkFall(t, what, l, h, keep)
					checkGoingOn(t, what, d, l, part, torn)
				}
			}
		}
	}
}

func TestFallsAtAnyNumbers(t *testing.T) {
	numbers := []int{math.MinInt, -1, 0, 1, 2, 3, 1000, math.MaxInt}
	for _, keep := range numbers {
		for _, torn := range numbers {
			d := made(t, mostRoom)
			_, h := play(t, d, 2, "kasaaa")
			what := fmt.Sprintf("Crash(%d, %d)", keep, torn)
			l := fall(t, d, 2, keep, torn)
			checkFall(t, what, l, h, keep)
			if keep >= 3 {
				check(t, "P6.2: "+what, l, h.base, h.recs...)
			}
			checkGoingOn(t, what, d, l, 2, torn)
		}
	}
}

// Another part at each Open makes no difference to what is there.
func TestFallsWithOtherParts(t *testing.T) {
	for torn := range 40 {
		d := made(t, mostRoom)
		_, h := play(t, d, 3, "aaaasaab")
		l := fall(t, d, 1, 1, torn)
		checkFall(t, "with parts of one", l, h, 1)
		want := show(l)
		for _, part := range []int{1000, 2, 1, 3} {
			if got := show(fall(t, d, part, 0, 0)); got != want {
				t.Errorf("P6.2: with parts of %d it has %s, want %s", part, got, want)
			}
		}
	}
}

// keepFile is what a Keep writes: a log with such steps, and the file that is there behind its Keep.
func keepFile(t *testing.T, part int, steps, base string) (image, int, string) {
	t.Helper()
	d := made(t, mostRoom)
	l, _ := play(t, d, part, steps)
	before := imageOf(d)
	must(t, "P6.1: Keep", l.Keep([]byte(base)), api.OK)
	files := d.Files()
	if len(files) != 1 {
		t.Fatalf("P6.1: behind a Keep there are %d files, want one", len(files))
	}
	if _, ok := before[files[0]]; ok {
		t.Fatalf("P6.2: Keep writes to a file of the elder log")
	}
	return before, files[0], imageOf(d)[files[0]]
}

var keepSteps = []string{"", "a", "aaa", "aas", "aasa", "bsaab", "k", "kaa", "kas", "kasaa", "akbsab", "ak", "kk", "kkas", "akasa"}

// A fall inside a Keep, torn at any byte of its write, with what is not safe at any of its writes too.
func TestFallsInsideKeep(t *testing.T) {
	for _, steps := range keepSteps {
		for part := 1; part <= 3; part++ {
			_, file, data := keepFile(t, part, steps, "new")
			for keep := range 10 {
				for torn := range len(data) + 2 {
					d := made(t, mostRoom)
					_, h := play(t, d, part, steps)
					if err := d.Append(file, []byte(data)); err != api.OK {
						t.Fatalf("P5.1: Append: error %d", err)
					}
					what := fmt.Sprintf("%s, a Keep, Crash(%d, %d)", steps, keep, torn)
					l := fall(t, d, part, keep, torn)
					if string(l.Base()) == "new" {
						check(t, "P6.2: "+what, l, "new")
					} else {
						checkFall(t, what, l, h, keep)
					}
					checkGoingOn(t, what, d, l, part, torn)
				}
			}
		}
	}
}

// A fall inside a Keep, when the new base is safe and some elder files are gone already.
func TestFallsInsideKeepAtDrops(t *testing.T) {
	for _, steps := range keepSteps {
		for part := 1; part <= 3; part++ {
			before, file, data := keepFile(t, part, steps, "new")
			elder := lay(t, before).Files()
			for set := range 1 << len(elder) {
				m := image{file: data}
				for i, n := range elder {
					if set>>i&1 == 1 {
						m[n] = before[n]
					}
				}
				d := lay(t, m)
				what := fmt.Sprintf("%s, a Keep, elder files %b", steps, set)
				l := opened(t, d, part)
				check(t, "P6.2: "+what, l, "new")
				if got := len(d.Files()); got != 1 {
					t.Errorf("P6.2: %s: %d files behind Open, want one", what, got)
				}
				checkGoingOn(t, what, d, l, part, 0)
			}
		}
	}
}

// What Open takes is safe ahead of anything that it drops.
func TestOpenMakesSafe(t *testing.T) {
	for part := 1; part <= 3; part++ {
		_, file, data := keepFile(t, part, "aasa", "new")
		d := made(t, mostRoom)
		play(t, d, part, "aasa")
		d.Append(file, []byte(data))
		check(t, "P6.2: Open of a base that is not safe", opened(t, d, part), "new")
		check(t, "P6.2: what Open has is safe", fall(t, d, part, 0, 0), "new")

		d = made(t, mostRoom)
		_, h := play(t, d, part, "aasab")
		check(t, "P6.2: Open of records that are not safe", opened(t, d, part), "", h.recs...)
		check(t, "P6.2: what Open has is safe", fall(t, d, part, 0, 0), "", h.recs...)
	}
}

// What is torn is gone for good: records that are added behind it do not bring it back.
func TestTornIsGone(t *testing.T) {
	for part := 1; part <= 3; part++ {
		for torn := range 32 {
			d := made(t, mostRoom)
			add(t, opened(t, d, part), "ab")
			l := fall(t, d, part, 0, torn)
			recs := texts(l.All())
			if len(recs) == 1 {
				continue
			}
			add(t, l, "cd")
			check(t, "P6.2: behind a torn record", opened(t, d, part), "", "cd")
			l = fall(t, d, part, 0, 0)
			add(t, l, "ef")
			check(t, "P6.2: behind a torn record", fall(t, d, part, 9, 0), "", "cd", "ef")
		}
	}
}

// Each fall leaves a torn record behind a whole one, more often than a disk has files.
func TestMoreFallsThanFiles(t *testing.T) {
	for _, part := range []int{1, 1000} {
		d := made(t, mostRoom)
		l := opened(t, d, part)
		var want []string
		for i := range 1100 {
			add(t, l, fmt.Sprint(i))
			add(t, l, "torn")
			l = fall(t, d, part, 1, 1+i%33)
			want = append(want, fmt.Sprint(i))
		}
		check(t, "P6.2: more falls than files", l, "", want...)
		add(t, l, "a", "b")
		must(t, "P6.1: Sync", l.Sync(), api.OK)
		l = fall(t, d, part, 0, 0)
		check(t, "P6.2: behind more falls than files", l, "", append(want, "a", "b")...)
		must(t, "P6.1: Keep behind more falls than files", l.Keep([]byte("base")), api.OK)
		check(t, "P6.1: Keep behind more falls than files", fall(t, d, part, 0, 0), "base")
	}
}

// When no number is left for another file, a torn one is written anew: a fall inside of that.
func TestFallsInsideMending(t *testing.T) {
	const part = 3
	d := made(t, mostRoom)
	l := opened(t, d, part)
	var list []string
	for i := range 999 * part {
		list = append(list, fmt.Sprint(i))
	}
	add(t, l, list...)
	must(t, "P6.1: Sync", l.Sync(), api.OK)
	add(t, l, "torn")
	l = fall(t, d, part, 0, 25)
	check(t, "P6.2: a torn record", l, "", list...)
	before := imageOf(d)
	add(t, l, "new")
	after := imageOf(d)
	check(t, "P6.2: behind a torn record", opened(t, d, part), "", append(list, "new")...)
	for file, data := range after {
		if _, ok := before[file]; ok {
			continue
		}
		last := len(data) - len(entryOf(t, "new"))
		for torn := 0; torn <= last; torn++ {
			d := lay(t, before)
			d.Append(file, []byte(data[:last]))
			check(t, fmt.Sprintf("P6.2: a fall at %d", torn), fall(t, d, part, 0, torn), "", list...)
			check(t, "P6.2: what Open has is safe", fall(t, d, part, 0, 0), "", list...)
		}
	}
}

// entryOf is what a record takes on a disk.
func entryOf(t *testing.T, rec string) string {
	d := made(t, 1000)
	add(t, opened(t, d, 1), rec)
	return imageOf(d)[d.Files()[0]]
}

// Falls that leave nothing whole leave no files behind.
func TestFallsLeaveNoFiles(t *testing.T) {
	d := made(t, mostRoom)
	l := opened(t, d, 1)
	for torn := range 30 {
		add(t, l, "a", "b")
		l = fall(t, d, 1, 0, torn)
		check(t, "P6.2: a torn record", l, "")
		if n := len(d.Files()); n != 0 {
			t.Errorf("P6.2: %d files of a log that has nothing", n)
		}
	}
}
