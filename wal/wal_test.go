package wal_test

import (
	"bytes"
	"fmt"
	"math"
	"slices"
	"testing"

	"rostrum/api"
	"rostrum/disk"
	"rostrum/wal"
)

const mostRoom = 1 << 20

// made is a new disk with the power on.
func made(t *testing.T, room int) *disk.Disk {
	t.Helper()
	d, err := disk.New(room)
	if err != api.OK || d == nil {
		t.Fatalf("P5.1: New(%d): error %d", room, err)
	}
	return d
}

// opened is a disk's log, which has to be there.
func opened(t *testing.T, d *disk.Disk, part int) *wal.Log {
	t.Helper()
	l, err := wal.Open(d, part)
	if err != api.OK || l == nil {
		t.Fatalf("P6.1: Open with parts of %d: error %d", part, err)
	}
	if l.Done() {
		t.Fatalf("P6.1: Open with parts of %d: it is done at once", part)
	}
	return l
}

// fall lets the power go and come back, and opens the log again.
func fall(t *testing.T, d *disk.Disk, part, keep, torn int) *wal.Log {
	t.Helper()
	d.Crash(keep, torn)
	d.On()
	return opened(t, d, part)
}

// show is all that a log tells.
func show(l *wal.Log) string { return told(string(l.Base()), texts(l.All())) }

// told is what show tells of such a log.
func told(base string, recs []string) string { return fmt.Sprintf("%q %q", base, recs) }

func texts(list [][]byte) []string {
	var s []string
	for _, b := range list {
		s = append(s, string(b))
	}
	return s
}

// records makes a list for Add.
func records(list ...string) [][]byte {
	var recs [][]byte
	for _, s := range list {
		recs = append(recs, []byte(s))
	}
	return recs
}

// check holds what a log tells against a base and records.
func check(t *testing.T, promise string, l *wal.Log, base string, recs ...string) {
	t.Helper()
	if got, want := show(l), told(base, recs); got != want {
		t.Errorf("%s: it has %.200s, want %.200s", promise, got, want)
	}
}

// must holds a call's answer against the one that is asked for.
func must(t *testing.T, what string, got, want api.Errno) {
	t.Helper()
	if got != want {
		t.Errorf("%s: error %d, want %d", what, got, want)
	}
}

// add puts texts behind, which have to be taken.
func add(t *testing.T, l *wal.Log, list ...string) {
	t.Helper()
	must(t, "P6.1: Add", l.Add(records(list...)...), api.OK)
}

// image is a disk's files by their numbers.
type image map[int]string

func imageOf(d *disk.Disk) image {
	m := image{}
	for _, file := range d.Files() {
		b, _ := d.Read(file)
		m[file] = string(b)
	}
	return m
}

// lay makes a disk with such files, all of them safe.
func lay(t *testing.T, m image) *disk.Disk {
	t.Helper()
	d := made(t, mostRoom)
	for file, s := range m {
		if d.Append(file, []byte(s)) != api.OK || d.Sync(file) != api.OK {
			t.Fatalf("P5.1: no file %d of %d bytes", file, len(s))
		}
	}
	return d
}

func TestExample(t *testing.T) {
	d := made(t, 1000)
	l := opened(t, d, 10)
	add(t, l, "a")
	must(t, "P6.1: Sync", l.Sync(), api.OK)
	add(t, l, "b")
	d.Crash(0, 0)
	d.On()
	check(t, "P6.2: the chapter's example", opened(t, d, 10), "", "a")
}

func TestOpenParts(t *testing.T) {
	for _, part := range []int{1, 2, 999, 1000} {
		l := opened(t, made(t, 1000), part)
		check(t, "P6.1: a new log", l, "")
	}
	for _, part := range []int{0, 1001, 1002, -1, -1000, math.MaxInt, math.MinInt, 1<<32 + 1} {
		l, err := wal.Open(made(t, 1000), part)
		if l != nil || err != api.EARG {
			t.Errorf("P6.1: Open with parts of %d: error %d, want %d and no log", part, err, api.EARG)
		}
	}
}

func TestOpenErrors(t *testing.T) {
	spoilt := func() *disk.Disk {
		d := made(t, 1000)
		l := opened(t, d, 5)
		add(t, l, "abc")
		l.Sync()
		b, _ := d.Read(d.Files()[0])
		d.Spoil(d.Files()[0], len(b)-1, 1)
		return d
	}
	off := func(d *disk.Disk) *disk.Disk {
		d.Crash(0, 0)
		return d
	}
	for _, c := range []struct {
		what string
		disk *disk.Disk
		part int
		want api.Errno
	}{
		{"no power", off(made(t, 1000)), 1, api.EOFF},
		{"no power and a wrong part", off(made(t, 1000)), 0, api.EARG},
		{"a spoilt byte", spoilt(), 5, api.EFORM},
		{"a spoilt byte and a wrong part", spoilt(), 1001, api.EARG},
		{"a spoilt byte without power", off(spoilt()), 5, api.EOFF},
		{"a spoilt byte without power and a wrong part", off(spoilt()), -1, api.EARG},
	} {
		l, err := wal.Open(c.disk, c.part)
		if l != nil || err != c.want {
			t.Errorf("P6.1, R6: Open of %s: error %d, want %d and no log", c.what, err, c.want)
		}
	}
}

func TestOpenAgain(t *testing.T) {
	for _, first := range []int{1, 2, 3, 1000} {
		for _, second := range []int{1, 2, 3, 1000} {
			d := made(t, 4000)
			opened(t, d, first)
			check(t, "P6.1: Open again of an empty one", opened(t, d, second), "")
			l := opened(t, d, first)
			add(t, l, "a", "b", "c", "d")
			check(t, "P6.1: Open again", opened(t, d, second), "", "a", "b", "c", "d")
			l = opened(t, d, second)
			must(t, "P6.1: Keep", l.Keep([]byte("base")), api.OK)
			add(t, l, "e")
			check(t, "P6.1: Open again, with a base", opened(t, d, first), "base", "e")
		}
	}
}

func TestAdd(t *testing.T) {
	for _, part := range []int{1, 2, 1000} {
		d := made(t, 8000)
		l := opened(t, d, part)
		add(t, l, "a")
		add(t, l, "", "bc", "")
		add(t, l)
		must(t, "P6.1: Add of a nil record", l.Add(nil), api.OK)
		add(t, l, "a")
		want := []string{"a", "", "bc", "", "", "a"}
		check(t, "P6.1: All", l, "", want...)
		check(t, "P6.1: All, opened again", opened(t, d, part), "", want...)
		must(t, "P6.1: Sync", l.Sync(), api.OK)
		must(t, "P6.1: Sync again", l.Sync(), api.OK)
		check(t, "P6.2: all are safe", fall(t, d, part, 0, 0), "", want...)
	}
}

func TestAddNone(t *testing.T) {
	d := made(t, 1000)
	l := opened(t, d, 1)
	for range 3 {
		must(t, "P6.1: Add of no records", l.Add(), api.OK)
	}
	must(t, "P6.1: Sync of no records", l.Sync(), api.OK)
	check(t, "P6.1: an Add of no records", l, "")
	check(t, "P6.2: an Add of no records", fall(t, d, 1, 0, 0), "")
}

func TestAddLongest(t *testing.T) {
	long := string(bytes.Repeat([]byte("x"), api.MaxFrame))
	for _, part := range []int{1, 2} {
		d := made(t, mostRoom)
		l := opened(t, d, part)
		add(t, l, "a", long, "b")
		add(t, l, long)
		check(t, "P6.1: records of MaxFrame bytes", l, "", "a", long, "b", long)
		check(t, "P6.1: records of MaxFrame bytes, opened again", opened(t, d, part), "", "a", long, "b", long)
	}
}

func TestAddTooLong(t *testing.T) {
	long := string(make([]byte, api.MaxFrame+1))
	longer := string(make([]byte, 2*mostRoom))
	for _, part := range []int{1, 2, 10} {
		d := made(t, 10000)
		l := opened(t, d, part)
		add(t, l, "a")
		before := imageOf(d)
		for _, recs := range [][]string{{long}, {longer}, {long, "b"}, {"b", long}, {"b", "c", long, "d"}, {longer, long}} {
			must(t, "P6.1: Add of one that is too long", l.Add(records(recs...)...), api.ELIMIT)
		}
		if l.Done() {
			t.Errorf("P6.1: an Add that is refused by ELIMIT makes the log done")
		}
		if got := imageOf(d); fmt.Sprint(got) != fmt.Sprint(before) {
			t.Errorf("R3: an Add that is refused by ELIMIT writes to the disk")
		}
		check(t, "P6.1: none is added", l, "", "a")
		add(t, l, "e")
		check(t, "P6.1: none is added, opened again", opened(t, d, part), "", "a", "e")
	}
}

func TestParts(t *testing.T) {
	for _, part := range []int{1, 2, 3, 7} {
		for _, kept := range []bool{false, true} {
			d := made(t, 100000)
			l := opened(t, d, part)
			if kept {
				must(t, "P6.1: Keep", l.Keep([]byte("base")), api.OK)
			}
			for n := 1; n <= 3*part+1; n++ {
				add(t, l, fmt.Sprint(n))
				if got, want := len(d.Files()), (n+part-1)/part; got != want {
					t.Errorf("P6.1: %d records in parts of %d, kept %v: %d files, want %d", n, part, kept, got, want)
				}
			}
			want := show(l)
			if got := show(opened(t, d, part)); got != want {
				t.Errorf("P6.1: parts of %d, kept %v: opened again it has %s, want %s", part, kept, got, want)
			}
		}
	}
}

func TestPartsOfOneAdd(t *testing.T) {
	for part := 1; part <= 4; part++ {
		for ahead := range 5 {
			for n := 1; n <= 9; n++ {
				d := made(t, 10000)
				l := opened(t, d, part)
				var list []string
				for i := range ahead + n {
					list = append(list, fmt.Sprint(i))
				}
				add(t, l, list[:ahead]...)
				add(t, l, list[ahead:]...)
				if got, want := len(d.Files()), (ahead+n+part-1)/part; got != want {
					t.Errorf("P6.1: %d and %d records in parts of %d: %d files, want %d", ahead, n, part, got, want)
				}
				check(t, "P6.1: records over parts", l, "", list...)
				check(t, "P6.1: records over parts, opened again", opened(t, d, part), "", list...)
			}
		}
	}
}

func TestPartsGoOnBehindOpen(t *testing.T) {
	for _, c := range []struct{ first, second, files int }{{3, 3, 2}, {3, 2, 2}, {3, 4, 1}, {1000, 1, 3}, {1, 1000, 2}} {
		d := made(t, 10000)
		add(t, opened(t, d, c.first), "a", "b")
		l := opened(t, d, c.second)
		add(t, l, "c")
		add(t, l, "d")
		if got := len(d.Files()); got != c.files {
			t.Errorf("P6.1: two records in parts of %d, two in parts of %d: %d files, want %d", c.first, c.second, got, c.files)
		}
		check(t, "P6.1: with another part", opened(t, d, c.first), "", "a", "b", "c", "d")
	}
}

// A base is no record of a part.
func TestPartsGoOnBehindBase(t *testing.T) {
	for part := 1; part <= 3; part++ {
		d := made(t, 10000)
		must(t, "P6.1: Keep", opened(t, d, part).Keep([]byte("base")), api.OK)
		for n := 1; n <= 2*part+1; n++ {
			add(t, opened(t, d, part), "a")
			if got, want := len(d.Files()), (n+part-1)/part; got != want {
				t.Errorf("P6.1: a base and %d records in parts of %d: %d files, want %d", n, part, got, want)
			}
		}
	}
}

func TestKeep(t *testing.T) {
	for _, part := range []int{1, 2, 1000} {
		d := made(t, mostRoom)
		l := opened(t, d, part)
		long := string(bytes.Repeat([]byte("y"), api.MaxFrame))
		for _, c := range []struct {
			ahead []string
			base  string
		}{
			{nil, "ahead of any record"},
			{[]string{"a"}, "behind one"},
			{[]string{"a", "b", "c"}, "behind some"},
			{nil, "twice"},
			{nil, "twice"},
			{[]string{"a"}, ""},
			{nil, ""},
			{[]string{"", "b"}, long},
			{[]string{long}, long},
			{nil, "the last"},
		} {
			add(t, l, c.ahead...)
			must(t, "P6.1: Keep", l.Keep([]byte(c.base)), api.OK)
			check(t, "P6.1: Keep", l, c.base)
			if n := len(d.Files()); n != 1 {
				t.Errorf("P6.1: behind a Keep there are %d files, want one", n)
			}
			check(t, "P6.1: Keep, opened again", opened(t, d, part), c.base)
			l = fall(t, d, part, 0, 0)
			check(t, "P6.1: Keep is safe", l, c.base)
			add(t, l, "behind it")
			check(t, "P6.1: a record behind Keep", l, c.base, "behind it")
		}
	}
}

func TestKeepTooLong(t *testing.T) {
	d := made(t, mostRoom)
	l := opened(t, d, 2)
	must(t, "P6.1: Keep of too much at first", l.Keep(make([]byte, api.MaxFrame+1)), api.ELIMIT)
	must(t, "P6.1: Keep", l.Keep([]byte("base")), api.OK)
	add(t, l, "a")
	before := imageOf(d)
	for _, n := range []int{api.MaxFrame + 1, 2 * mostRoom} {
		must(t, "P6.1: Keep of too much", l.Keep(make([]byte, n)), api.ELIMIT)
	}
	if l.Done() || fmt.Sprint(imageOf(d)) != fmt.Sprint(before) {
		t.Errorf("R3: a Keep that is refused by ELIMIT changes something")
	}
	check(t, "P6.1: Keep of too much", l, "base", "a")
	check(t, "P6.1: Keep of too much, opened again", opened(t, d, 2), "base", "a")
}

// checkDone asks all calls of a log that is done.
func checkDone(t *testing.T, what string, l *wal.Log, want string) {
	t.Helper()
	for range 2 {
		if !l.Done() {
			t.Errorf("P6.1: %s: Done is false", what)
		}
		must(t, "P6.1: "+what+": Add", l.Add([]byte("x")), api.EOFF)
		must(t, "P6.1: "+what+": Add of none", l.Add(), api.EOFF)
		must(t, "P6.1: "+what+": Sync", l.Sync(), api.EOFF)
		must(t, "P6.1: "+what+": Keep", l.Keep(nil), api.EOFF)
		must(t, "R6: "+what+": Add of too much", l.Add(nil, make([]byte, api.MaxFrame+1)), api.ELIMIT)
		must(t, "R6: "+what+": Keep of too much", l.Keep(make([]byte, api.MaxFrame+1)), api.ELIMIT)
		if got := show(l); got != want {
			t.Errorf("P6.1: %s: it tells %s, want %s", what, got, want)
		}
	}
}

func TestDone(t *testing.T) {
	for _, c := range []struct {
		what string
		do   func(d *disk.Disk)
	}{
		{"without power", func(d *disk.Disk) { d.Crash(0, 0) }},
		{"behind a Crash and an On", func(d *disk.Disk) { d.Crash(0, 0); d.On() }},
		{"behind a Crash that kept all, and an On", func(d *disk.Disk) { d.Crash(9, 0); d.On() }},
		{"behind an On with the power on", func(d *disk.Disk) { d.On() }},
	} {
		for _, kept := range []bool{false, true} {
			d := made(t, 1000)
			l := opened(t, d, 2)
			if kept {
				must(t, "P6.1: Keep", l.Keep([]byte("base")), api.OK)
			}
			add(t, l, "a", "b")
			l.Sync()
			add(t, l, "c")
			want := show(l)
			c.do(d)
			before := imageOf(d)
			checkDone(t, c.what, l, want)
			if got := imageOf(d); fmt.Sprint(got) != fmt.Sprint(before) {
				t.Errorf("P6.1: %s: a log that is done writes to the disk", c.what)
			}
			if d.Power() {
				opened(t, d, 2)
				checkDone(t, c.what+", another one open", l, want)
			}
		}
	}
}

func TestNotDone(t *testing.T) {
	d := made(t, 1000)
	d.Crash(0, 0)
	d.On()
	d.On()
	l := opened(t, d, 1)
	add(t, l, "a")
	must(t, "P6.1: Sync", l.Sync(), api.OK)
	must(t, "P6.1: Keep", l.Keep([]byte("b")), api.OK)
	if l.Done() {
		t.Errorf("P6.1: a log of a disk that has had three lives at Open is done")
	}
	check(t, "P6.1: a log of a third life", l, "b")
}

func TestMoreRecordsThanFiles(t *testing.T) {
	for _, many := range []bool{false, true} {
		d := made(t, mostRoom)
		l := opened(t, d, 1)
		var list []string
		for i := range 1100 {
			list = append(list, fmt.Sprint(i))
			if !many {
				add(t, l, list[i])
			}
		}
		if many {
			add(t, l, list...)
		}
		check(t, "P6.1: more records than files", l, "", list...)
		must(t, "P6.1: Sync", l.Sync(), api.OK)
		l = fall(t, d, 1, 0, 0)
		check(t, "P6.2: more records than files", l, "", list...)
		add(t, l, "x", "y")
		add(t, l, "z")
		l = fall(t, d, 1, 1, 0)
		check(t, "P6.2: still more records than files", l, "", append(list, "x", "y")...)
		must(t, "P6.1: Keep behind more records than files", l.Keep([]byte("base")), api.OK)
		add(t, l, "a", "b")
		check(t, "P6.1: Keep behind more records than files", opened(t, d, 1), "base", "a", "b")
		if n := len(d.Files()); n != 2 {
			t.Errorf("P6.1: two records in parts of one behind a Keep: %d files, want 2", n)
		}
	}
}

func TestForeignBytes(t *testing.T) {
	for _, m := range []image{
		{0: string(make([]byte, 100))},
		{999: string(bytes.Repeat([]byte{255}, 100))},
		{5: "\x01" + string(make([]byte, 99)), 6: "\x01\x00\x00\x01\x00" + string(make([]byte, 99))},
	} {
		d := lay(t, m)
		if l, err := wal.Open(d, 3); l != nil || err != api.EFORM {
			t.Errorf("P6.1: Open of bytes that no log has written: error %d, want %d", err, api.EFORM)
		}
		if fmt.Sprint(imageOf(d)) != fmt.Sprint(m) {
			t.Errorf("R3: Open of bytes that no log has written changes them")
		}
	}
}

// without is all files but one.
func without(m image, file int) image {
	rest := image{}
	for n, s := range m {
		if n != file {
			rest[n] = s
		}
	}
	return rest
}

func TestMissingFile(t *testing.T) {
	d := made(t, 10000)
	add(t, opened(t, d, 1), "a", "b", "c")
	m := imageOf(d)
	for _, file := range d.Files()[:2] {
		l, err := wal.Open(lay(t, without(m, file)), 1)
		if l != nil || err != api.EFORM {
			t.Errorf("P6.1: without file %d what is there is no beginning: error %d, want %d", file, err, api.EFORM)
		}
	}
}

func TestFilesPutTogether(t *testing.T) {
	d := made(t, 10000)
	l := opened(t, d, 1)
	add(t, l, "a", "b", "c")
	elder := imageOf(d)
	must(t, "P6.1: Keep", l.Keep([]byte("base")), api.OK)
	newer := imageOf(d)[d.Files()[0]]
	for what, m := range map[string]image{
		"a record twice":         {0: elder[0] + elder[0]},
		"the third ahead":        {0: elder[2] + elder[0]},
		"without the second":     {0: elder[0] + elder[2]},
		"a base behind a record": {0: elder[0] + newer},
		"a record of an elder":   {0: newer + elder[0]},
	} {
		if l, err := wal.Open(lay(t, m), 1); l != nil || err != api.EFORM {
			t.Errorf("P6.1: a file with %s: error %d, want %d", what, err, api.EFORM)
		}
	}
}

// beginning tells whether got is the first ones of list.
func beginning(list, got []string) bool {
	return len(got) <= len(list) && slices.Equal(list[:len(got)], got)
}
