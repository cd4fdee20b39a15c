package disk_test

import (
	"bytes"
	"fmt"
	"math"
	"math/rand"
	"slices"
	"strings"
	"testing"

	"rostrum/api"
	"rostrum/disk"
)

// modelWrite is one write that was made, and not dropped.
type modelWrite struct {
	file int
	data []byte
	safe bool
}

// model is a disk by the chapter's words: one row of writes, gone through whole at each call.
type model struct {
	room   int
	there  map[int]bool
	writes []modelWrite
	off    bool
	lives  int
}

func newModel(room int) *model {
	return &model{room: room, there: map[int]bool{}, lives: 1}
}

// first is the error that holds of a file whatever the call is; it is the one of a missing file if asked for.
func (m *model) first(file int, must bool) api.Errno {
	switch {
	case m.off:
		return api.EOFF
	case file < 0 || file > 999:
		return api.EARG
	case must && !m.there[file]:
		return api.ENONE
	}
	return api.OK
}

func (m *model) append(file int, b []byte) api.Errno {
	if err := m.first(file, false); err != api.OK {
		return err
	}
	total := len(b)
	for _, w := range m.writes {
		total += len(w.data)
	}
	if total > m.room {
		return api.EFULL
	}
	m.there[file] = true
	m.writes = append(m.writes, modelWrite{file, bytes.Clone(b), false})
	return api.OK
}

func (m *model) sync(file int) api.Errno {
	err := m.first(file, true)
	for i := range m.writes {
		if err == api.OK && m.writes[i].file == file {
			m.writes[i].safe = true
		}
	}
	return err
}

func (m *model) read(file int) ([]byte, api.Errno) {
	err := m.first(file, true)
	var b []byte
	for _, w := range m.writes {
		if err == api.OK && w.file == file {
			b = append(b, w.data...)
		}
	}
	return b, err
}

func (m *model) drop(file int) api.Errno {
	err := m.first(file, true)
	if err == api.OK {
		delete(m.there, file)
		m.writes = slices.DeleteFunc(m.writes, func(w modelWrite) bool { return w.file == file })
	}
	return err
}

func (m *model) files() []int {
	var list []int
	for n := range 1000 {
		if m.there[n] && !m.off {
			list = append(list, n)
		}
	}
	return list
}

func (m *model) spoil(file, at int, by byte) bool {
	if m.first(file, true) != api.OK || at < 0 || by == 0 {
		return false
	}
	for _, w := range m.writes {
		if w.file != file {
			continue
		}
		if at < len(w.data) {
			w.data[at] ^= by
			return true
		}
		at -= len(w.data)
	}
	return false
}

func (m *model) crash(keep, torn int) {
	m.off = true
	number := 0
	var stay []modelWrite
	for _, w := range m.writes {
		if !w.safe {
			switch {
			case number == keep && torn < 0:
				w.data = nil
			case number == keep && torn < len(w.data):
				w.data = w.data[:torn]
			case number > keep:
				w.data = nil
			}
			w.safe = true
			number++
		}
		stay = append(stay, w)
	}
	m.writes = stay
}

func (m *model) on() {
	m.off = false
	m.lives++
}

// made is a new disk with the power on.
func made(t *testing.T, room int) *disk.Disk {
	t.Helper()
	d, err := disk.New(room)
	if err != api.OK || d == nil {
		t.Fatalf("P5.1: New(%d): error %d", room, err)
	}
	return d
}

// add appends a text, which has to be taken.
func add(t *testing.T, d *disk.Disk, file int, s string) {
	t.Helper()
	if err := d.Append(file, []byte(s)); err != api.OK {
		t.Fatalf("P5.1: Append(%d, %q): error %d", file, s, err)
	}
}

// show is all that a disk with the power on has.
func show(t *testing.T, d *disk.Disk) string {
	t.Helper()
	var s []string
	for _, n := range d.Files() {
		b, err := d.Read(n)
		if err != api.OK {
			t.Errorf("P5.1: Read(%d) of a file that Files tells: error %d", n, err)
		}
		s = append(s, fmt.Sprintf("%d:%s", n, b))
	}
	return strings.Join(s, " ")
}

// check holds what a disk has against a text.
func check(t *testing.T, promise string, d *disk.Disk, want string) {
	t.Helper()
	if got := show(t, d); got != want {
		t.Errorf("%s: it has %q, want %q", promise, got, want)
	}
}

// fall lets the power go and come back.
func fall(d *disk.Disk, keep, torn int) {
	d.Crash(keep, torn)
	d.On()
}

func TestExample(t *testing.T) {
	d := made(t, 64)
	add(t, d, 0, "xy")
	add(t, d, 1, "zz")
	fall(d, 1, 1)
	check(t, "P5.2", d, "0:xy 1:z")
}

func TestNew(t *testing.T) {
	for _, room := range []int{64, 65, 1000, 1<<20 - 1, 1 << 20} {
		d := made(t, room)
		if !d.Power() || d.Lives() != 1 || len(d.Files()) != 0 {
			t.Errorf("P5.1: New(%d): Power %v, Lives %d, Files %v", room, d.Power(), d.Lives(), d.Files())
		}
	}
	for _, room := range []int{63, 1<<20 + 1, 0, -1, -64, 1 << 21, math.MaxInt, math.MinInt} {
		if d, err := disk.New(room); d != nil || err != api.EARG {
			t.Errorf("P5.1: New(%d): error %d, a disk %v", room, err, d != nil)
		}
	}
}

func TestRoom(t *testing.T) {
	for _, room := range []int{64, 65, 1000, 1 << 20} {
		d := made(t, room)
		if err := d.Append(0, make([]byte, room+1)); err != api.EFULL {
			t.Errorf("P5.1: room %d, one byte more: error %d", room, err)
		}
		if err := d.Append(0, make([]byte, room)); err != api.OK {
			t.Errorf("P5.1: room %d, just filled: error %d", room, err)
		}
		if err := d.Append(1, []byte{1}); err != api.EFULL {
			t.Errorf("P5.1: room %d, a byte in a full disk: error %d", room, err)
		}
		if err := d.Append(1, nil); err != api.OK {
			t.Errorf("P5.1: room %d, no bytes in a full disk: error %d", room, err)
		}
		if b, _ := d.Read(0); len(b) != room {
			t.Errorf("P5.1: room %d: Read of all: %d bytes", room, len(b))
		}
	}
}

func TestRoomOfAllFiles(t *testing.T) {
	d := made(t, 64)
	for n := range 32 {
		add(t, d, n*31, "x")
		add(t, d, 0, "y")
	}
	if err := d.Append(500, []byte{1}); err != api.EFULL {
		t.Errorf("P5.1: a byte in a disk that many files fill: error %d", err)
	}
	if err := d.Drop(0); err != api.OK {
		t.Errorf("P5.1: Drop: error %d", err)
	}
	if err := d.Append(500, make([]byte, 34)); err != api.EFULL {
		t.Errorf("P5.1: more than the dropped file had: error %d", err)
	}
	if err := d.Append(500, make([]byte, 33)); err != api.OK {
		t.Errorf("P5.1: as much as the dropped file had: error %d", err)
	}
}

func TestRoomBehindAFall(t *testing.T) {
	d := made(t, 64)
	add(t, d, 0, "safe")
	d.Sync(0)
	add(t, d, 0, strings.Repeat("a", 20))
	add(t, d, 1, strings.Repeat("b", 40))
	fall(d, 1, 3)
	if err := d.Append(2, make([]byte, 38)); err != api.EFULL {
		t.Errorf("P5.2: more than is left behind a fall: error %d", err)
	}
	if err := d.Append(2, make([]byte, 37)); err != api.OK {
		t.Errorf("P5.2: just what is left behind a fall: error %d", err)
	}
	fall(d, 0, 0)
	if err := d.Append(2, make([]byte, 38)); err != api.EFULL {
		t.Errorf("P5.2: more than is left behind the next fall: error %d", err)
	}
	if err := d.Append(2, make([]byte, 37)); err != api.OK {
		t.Errorf("P5.2: just what is left behind the next fall: error %d", err)
	}
}

// calls are those that answer an error, with a file's number.
func calls(d *disk.Disk) map[string]func(file int) api.Errno {
	return map[string]func(file int) api.Errno{
		"Append of nothing":  func(file int) api.Errno { return d.Append(file, nil) },
		"Append of too much": func(file int) api.Errno { return d.Append(file, make([]byte, 1<<20+1)) },
		"Sync":               d.Sync,
		"Drop":               d.Drop,
		"Read": func(file int) api.Errno {
			b, err := d.Read(file)
			if err != api.OK && len(b) != 0 {
				return -1
			}
			return err
		},
	}
}

func TestWhichFiles(t *testing.T) {
	wrong := []int{-1, 1000, 1001, -999, 1 << 32, math.MaxInt, math.MinInt}
	for _, file := range []int{0, 1, 998, 999} {
		d := made(t, 64)
		add(t, d, file, "ab")
		check(t, "P5.1", d, fmt.Sprintf("%d:ab", file))
		if d.Sync(file) != api.OK || !d.Spoil(file, 0, 1) || d.Drop(file) != api.OK {
			t.Errorf("P5.1: Sync, Spoil, Drop of file %d are refused", file)
		}
		check(t, "P5.1", d, "")
	}
	d := made(t, 64)
	add(t, d, 0, "ab")
	add(t, d, 999, "cd")
	for _, file := range wrong {
		for what, call := range calls(d) {
			if err := call(file); err != api.EARG {
				t.Errorf("P5.1: %s, file %d: error %d", what, file, err)
			}
		}
		if d.Spoil(file, 0, 1) {
			t.Errorf("P5.1: Spoil of file %d: true", file)
		}
	}
	check(t, "R3", d, "0:ab 999:cd")
}

func TestNotThere(t *testing.T) {
	d := made(t, 64)
	add(t, d, 5, "ab")
	for _, file := range []int{0, 4, 6, 999} {
		for _, what := range []string{"Sync", "Read", "Drop"} {
			if err := calls(d)[what](file); err != api.ENONE {
				t.Errorf("P5.1: %s of a file that is not there: error %d", what, err)
			}
		}
		if d.Spoil(file, 0, 1) {
			t.Errorf("P5.1: Spoil of a file that is not there: true")
		}
	}
	check(t, "R3", d, "5:ab")
	d.Drop(5)
	for _, what := range []string{"Sync", "Read", "Drop"} {
		if err := calls(d)[what](5); err != api.ENONE {
			t.Errorf("P5.1: %s of a dropped file: error %d", what, err)
		}
	}
}

func TestWithoutPower(t *testing.T) {
	d := made(t, 64)
	add(t, d, 5, "ab")
	d.Sync(5)
	d.Crash(0, 0)
	// EOFF comes first, whatever else is wrong.
	for _, file := range []int{5, 6, -1, 1000, math.MinInt} {
		for what, call := range calls(d) {
			if err := call(file); err != api.EOFF {
				t.Errorf("P5.1: %s, file %d, without power: error %d", what, file, err)
			}
		}
		if d.Spoil(file, 0, 1) {
			t.Errorf("P5.1: Spoil of file %d without power: true", file)
		}
	}
	if list := d.Files(); len(list) != 0 {
		t.Errorf("P5.1: Files without power: %v", list)
	}
	if d.Power() || d.Lives() != 1 {
		t.Errorf("P5.2: behind a Crash: Power %v, Lives %d", d.Power(), d.Lives())
	}
	d.On()
	check(t, "R3", d, "5:ab")
}

func TestWhichErrorIsFirst(t *testing.T) {
	d := made(t, 64)
	if err := d.Append(-1, make([]byte, 65)); err != api.EARG {
		t.Errorf("R6: too much for a file that is none: error %d", err)
	}
	if err := d.Append(0, make([]byte, 65)); err != api.EFULL {
		t.Errorf("P5.1: too much for a file that is not there: error %d", err)
	}
	if err := d.Sync(0); err != api.ENONE {
		t.Errorf("R3: a refused Append made a file: Sync's error %d", err)
	}
}

func TestAppend(t *testing.T) {
	d := made(t, 64)
	add(t, d, 3, "")
	check(t, "P5.1", d, "3:")
	add(t, d, 3, "ab")
	add(t, d, 1, "cd")
	add(t, d, 3, "")
	add(t, d, 3, "\x00\xff")
	check(t, "P5.1", d, "1:cd 3:ab\x00\xff")
	if err := d.Append(7, nil); err != api.OK {
		t.Errorf("P5.1: Append of nil: error %d", err)
	}
	check(t, "P5.1", d, "1:cd 3:ab\x00\xff 7:")
}

func TestRefusedAppendLeavesAll(t *testing.T) {
	d := made(t, 64)
	add(t, d, 0, "ab")
	add(t, d, 1, "cd")
	for _, file := range []int{0, 1, 2, -1, 1000} {
		if d.Append(file, make([]byte, 61)) == api.OK {
			t.Errorf("P5.1: Append of too much to file %d is taken", file)
		}
	}
	check(t, "R3", d, "0:ab 1:cd")
	if err := d.Append(1, make([]byte, 60)); err != api.OK {
		t.Errorf("R3: a refused Append took room: error %d", err)
	}
	// The refused ones are no writes: number 2 is the last that was taken.
	fall(d, 2, 1)
	check(t, "R3", d, "0:ab 1:cd\x00")
}

func TestFilesRise(t *testing.T) {
	d := made(t, 64)
	order := rand.New(rand.NewSource(1)).Perm(1000)
	for i, n := range order {
		if err := d.Append(n, nil); err != api.OK {
			t.Fatalf("P5.1: Append: error %d", err)
		}
		want := slices.Sorted(slices.Values(order[:i+1]))
		if got := d.Files(); !slices.Equal(got, want) {
			t.Fatalf("P5.1: Files of %d: %v", i+1, got)
		}
	}
	for i, n := range order {
		d.Drop(n)
		want := slices.Sorted(slices.Values(order[i+1:]))
		if got := d.Files(); !slices.Equal(got, want) {
			t.Fatalf("P5.1: Files behind %d Drops: %v", i+1, got)
		}
	}
}

func TestSync(t *testing.T) {
	d := made(t, 64)
	add(t, d, 0, "ab")
	add(t, d, 1, "cd")
	add(t, d, 0, "ef")
	if err := d.Sync(0); err != api.OK {
		t.Errorf("P5.1: Sync: error %d", err)
	}
	add(t, d, 0, "gh")
	check(t, "P5.1", d, "0:abefgh 1:cd")
	fall(d, 0, 0)
	check(t, "P5.1", d, "0:abef 1:")
	if d.Sync(0) != api.OK || d.Sync(0) != api.OK || d.Sync(1) != api.OK {
		t.Errorf("P5.1: a Sync of what is safe is refused")
	}
	check(t, "P5.1", d, "0:abef 1:")
}

func TestSyncTakesWritesOfNothing(t *testing.T) {
	// A write of no bytes has a number till its file is made safe.
	d := made(t, 64)
	add(t, d, 0, "")
	add(t, d, 1, "")
	add(t, d, 2, "abc")
	d.Sync(0)
	fall(d, 1, 2)
	check(t, "P5.2", d, "0: 1: 2:ab")
}

func TestDrop(t *testing.T) {
	// A Drop is at once, of safe bytes and of others, and what was dropped does not come back.
	for _, keep := range []int{-1, 0, 1, 2, 3, 99} {
		d := made(t, 64)
		add(t, d, 0, "ab")
		d.Sync(0)
		add(t, d, 0, "cd")
		add(t, d, 1, "ef")
		if err := d.Drop(0); err != api.OK {
			t.Errorf("P5.1: Drop: error %d", err)
		}
		check(t, "P5.1", d, "1:ef")
		fall(d, keep, 0)
		want := "1:ef"
		if keep <= 0 {
			want = "1:"
		}
		check(t, "P5.1", d, want)
	}
}

func TestDroppedAndMadeAgain(t *testing.T) {
	// The dropped file's writes have no number any more, and its safe bytes are not the new file's.
	for keep, want := range []string{"0: 1:", "0:new 1:", "0:new 1:c", "0:newer 1:c"} {
		d := made(t, 64)
		add(t, d, 0, "long, and safe")
		d.Sync(0)
		add(t, d, 0, "old")
		add(t, d, 0, "")
		d.Drop(0)
		add(t, d, 0, "new")
		add(t, d, 1, "c")
		add(t, d, 0, "er")
		check(t, "P5.1", d, "0:newer 1:c")
		fall(d, keep, 0)
		check(t, "P5.1", d, want)
	}
	d := made(t, 64)
	add(t, d, 0, "safe")
	d.Sync(0)
	d.Drop(0)
	add(t, d, 0, "")
	check(t, "P5.1", d, "0:")
	fall(d, 9, 9)
	check(t, "P5.1", d, "0:")
}

func TestSpoil(t *testing.T) {
	for _, c := range []struct {
		file, at int
		by       byte
		want     string
	}{
		{0, 0, 1, "0:`bcd 1:"}, {0, 1, 255, "0:a\x9dcd 1:"}, {0, 2, 128, "0:ab\xe3d 1:"}, {0, 3, 'd', "0:abc\x00 1:"},
		{0, 0, 0, ""}, {0, 3, 0, ""}, {0, 4, 1, ""}, {0, -1, 1, ""}, {0, -4, 1, ""}, {0, math.MaxInt, 1, ""}, {0, math.MinInt, 1, ""},
		{1, 0, 1, ""}, {1, -1, 1, ""}, {2, 0, 1, ""}, {-1, 0, 1, ""}, {1000, 0, 1, ""},
	} {
		d := made(t, 64)
		add(t, d, 0, "ab")
		d.Sync(0)
		add(t, d, 0, "cd")
		add(t, d, 1, "")
		want, spoilt := c.want, c.want != ""
		if !spoilt {
			want = "0:abcd 1:"
		}
		if got := d.Spoil(c.file, c.at, c.by); got != spoilt {
			t.Errorf("P5.1: Spoil(%d, %d, %d): %v", c.file, c.at, c.by, got)
		}
		check(t, "P5.1", d, want)
		if spoilt && (!d.Spoil(c.file, c.at, c.by) || show(t, d) != "0:abcd 1:") {
			t.Errorf("P5.1: Spoil(%d, %d, %d) twice: %q", c.file, c.at, c.by, show(t, d))
		}
	}
}

func TestSpoilIsNoWrite(t *testing.T) {
	// What is spoilt stays spoilt behind a fall, is as safe as it was, and moves no write's number.
	for keep, want := range []string{"0:Ab 1:", "0:AbCd 1:", "0:AbCd 1:ef"} {
		d := made(t, 64)
		add(t, d, 0, "ab")
		d.Sync(0)
		add(t, d, 0, "cd")
		d.Spoil(0, 0, 32)
		d.Spoil(0, 2, 32)
		add(t, d, 1, "ef")
		check(t, "P5.1", d, "0:AbCd 1:ef")
		fall(d, keep, 0)
		check(t, "P5.1", d, want)
		fall(d, 0, 0)
		check(t, "P5.1", d, want)
	}
	d := made(t, 64)
	add(t, d, 0, "a")
	d.Spoil(0, 0, 32)
	d.Sync(0)
	fall(d, 0, 0)
	check(t, "P5.1", d, "0:A")
}

func TestCrashWithoutWrites(t *testing.T) {
	for _, keep := range []int{math.MinInt, -1, 0, 1, math.MaxInt} {
		for _, torn := range []int{math.MinInt, -1, 0, 1, math.MaxInt} {
			d := made(t, 64)
			fall(d, keep, torn)
			check(t, "P5.2", d, "")
			add(t, d, 0, "ab")
			add(t, d, 1, "")
			d.Sync(0)
			d.Sync(1)
			fall(d, keep, torn)
			check(t, "P5.2", d, "0:ab 1:")
		}
	}
}

// torns are what is asked to be left of the write number keep, with what is left of three bytes.
func torns() map[int]int {
	return map[int]int{math.MinInt: 0, -1: 0, 0: 0, 1: 1, 2: 2, 3: 3, 4: 3, 99: 3, math.MaxInt: 3}
}

func TestCrash(t *testing.T) {
	texts := []string{"abc", "def", "ghi", "jkl", "mno"}
	files := []int{7, 2, 7, 999, 2}
	for _, keep := range []int{math.MinInt, -1, 0, 1, 2, 3, 4, 5, 6, 99, math.MaxInt} {
		for torn, left := range torns() {
			d := made(t, 64)
			has := map[int]string{}
			for i, s := range texts {
				add(t, d, files[i], s)
				if i < keep {
					has[files[i]] += s
				}
				if i == keep {
					has[files[i]] += s[:left]
				}
			}
			d.Crash(keep, torn)
			if d.Power() || d.Lives() != 1 {
				t.Errorf("P5.2: Crash(%d, %d): Power %v, Lives %d", keep, torn, d.Power(), d.Lives())
			}
			d.On()
			want := fmt.Sprintf("2:%s 7:%s 999:%s", has[2], has[7], has[999])
			if got := show(t, d); got != want {
				t.Errorf("P5.2: Crash(%d, %d): %q, want %q", keep, torn, got, want)
			}
			fall(d, 0, 0)
			if got := show(t, d); got != want {
				t.Errorf("P5.2: Crash(%d, %d), and the next one: %q, want %q", keep, torn, got, want)
			}
		}
	}
}

func TestCrashTornWriteOfNothing(t *testing.T) {
	for torn := range torns() {
		d := made(t, 64)
		add(t, d, 0, "ab")
		add(t, d, 1, "")
		add(t, d, 0, "cd")
		fall(d, 1, torn)
		check(t, "P5.2", d, "0:ab 1:")
	}
}

func TestCrashSafeOnesBetween(t *testing.T) {
	// A file that is made safe leaves the numbers to the others' writes.
	for keep, want := range []string{"0:a 1:cd 2:", "0:ab 1:cd 2:e", "0:ab 1:cd 2:ef"} {
		d := made(t, 64)
		add(t, d, 0, "ab")
		add(t, d, 1, "c")
		add(t, d, 2, "ef")
		add(t, d, 1, "d")
		d.Sync(1)
		fall(d, keep, 1)
		check(t, "P5.2", d, want)
	}
}

func TestCrashNumbersBeginAgain(t *testing.T) {
	d := made(t, 64)
	for _, s := range []string{"a", "b", "c", "d"} {
		add(t, d, 0, s)
	}
	fall(d, 2, 0)
	add(t, d, 1, "xy")
	add(t, d, 0, "ef")
	add(t, d, 1, "z")
	fall(d, 1, 1)
	check(t, "P5.2", d, "0:abe 1:xy")
	add(t, d, 0, "f")
	check(t, "P5.2", d, "0:abef 1:xy")
}

func TestCrashOfAFallenDisk(t *testing.T) {
	d := made(t, 64)
	add(t, d, 0, "ab")
	add(t, d, 1, "cd")
	d.Crash(1, 1)
	for _, keep := range []int{0, 9, -1} {
		d.Crash(keep, 9)
		if d.Power() || d.Lives() != 1 {
			t.Errorf("P5.2: a Crash without power: Power %v, Lives %d", d.Power(), d.Lives())
		}
	}
	d.On()
	check(t, "P5.2", d, "0:ab 1:c")
}

func TestCrashRefusedWithoutPower(t *testing.T) {
	// What is asked without power is no write, and drops and makes safe nothing.
	d := made(t, 64)
	add(t, d, 0, "ab")
	d.Crash(9, 0)
	d.Append(0, []byte("cd"))
	d.Append(1, []byte("ef"))
	d.Sync(0)
	d.Drop(0)
	d.Spoil(0, 0, 1)
	fall(d, 9, 9)
	check(t, "R3", d, "0:ab")
}

func TestOn(t *testing.T) {
	d := made(t, 64)
	d.On()
	if !d.Power() || d.Lives() != 2 {
		t.Errorf("P5.2: On with the power on: Power %v, Lives %d", d.Power(), d.Lives())
	}
	for i := range 100 {
		if i%3 > 0 {
			d.Crash(i, i)
		}
		if d.Power() != (i%3 == 0) || d.Lives() != 2+i {
			t.Errorf("P5.2: ahead of On: Power %v, Lives %d", d.Power(), d.Lives())
		}
		d.On()
		if !d.Power() || d.Lives() != 3+i {
			t.Errorf("P5.2: behind On: Power %v, Lives %d", d.Power(), d.Lives())
		}
	}
}

func TestOnWithPowerLeavesAll(t *testing.T) {
	// An On with the power on makes nothing safe, and takes nothing away.
	d := made(t, 64)
	add(t, d, 0, "ab")
	add(t, d, 1, "cd")
	d.On()
	check(t, "P5.2", d, "0:ab 1:cd")
	add(t, d, 0, "ef")
	fall(d, 1, 1)
	check(t, "P5.2", d, "0:ab 1:c")
}

func TestTwoDisks(t *testing.T) {
	one, two := made(t, 64), made(t, 64)
	add(t, one, 0, "ab")
	add(t, two, 0, "cd")
	two.Sync(0)
	one.Crash(0, 1)
	if !two.Power() {
		t.Errorf("R5: a disk falls with another one")
	}
	check(t, "R5", two, "0:cd")
	one.On()
	check(t, "R5", one, "0:a")
	if one.Lives() != 2 || two.Lives() != 1 {
		t.Errorf("R5: Lives %d and %d", one.Lives(), two.Lives())
	}
}

// compare holds all that a disk tells against its model.
func compare(t *testing.T, what string, d *disk.Disk, m *model) {
	t.Helper()
	if d.Power() == m.off || d.Lives() != m.lives {
		t.Fatalf("P5.2: %s: Power %v, Lives %d, want %v, %d", what, d.Power(), d.Lives(), !m.off, m.lives)
	}
	if got, want := d.Files(), m.files(); !slices.Equal(got, want) {
		t.Fatalf("P5.1: %s: Files %v, want %v", what, got, want)
	}
	for _, file := range anyFiles() {
		got, err := d.Read(file)
		want, wantErr := m.read(file)
		if err != wantErr || !bytes.Equal(got, want) {
			t.Fatalf("P5.1: %s: Read(%d): %q, error %d, want %q, %d", what, file, got, err, want, wantErr)
		}
	}
}

// anyFiles are the files of the long runs, wrong ones too.
func anyFiles() []int { return []int{0, 1, 2, 3, 500, 999, -1, 1000} }

// anyStep does one thing to a disk and to its model, and holds the answers against each other.
func anyStep(t *testing.T, r *rand.Rand, d *disk.Disk, m *model) string {
	t.Helper()
	file := anyFiles()[r.Intn(8)]
	var what string
	var got, want any
	switch kind := r.Intn(20); {
	case kind < 9:
		b := make([]byte, max(0, r.Intn(16)-3))
		r.Read(b)
		what = fmt.Sprintf("Append(%d, %q)", file, b)
		got, want = d.Append(file, b), m.append(file, b)
	case kind < 12:
		what = fmt.Sprintf("Sync(%d)", file)
		got, want = d.Sync(file), m.sync(file)
	case kind < 14:
		what = fmt.Sprintf("Drop(%d)", file)
		got, want = d.Drop(file), m.drop(file)
	case kind < 16:
		at, by := r.Intn(30)-2, byte(r.Intn(3))
		what = fmt.Sprintf("Spoil(%d, %d, %d)", file, at, by)
		got, want = d.Spoil(file, at, by), m.spoil(file, at, by)
	case kind < 17:
		keep, torn := r.Intn(10)-1, r.Intn(14)-1
		what = fmt.Sprintf("Crash(%d, %d)", keep, torn)
		d.Crash(keep, torn)
		m.crash(keep, torn)
	default:
		if m.off || r.Intn(4) == 0 {
			what = "On"
			d.On()
			m.on()
		}
	}
	if got != want {
		t.Fatalf("P5.1: %s: %v, want %v", what, got, want)
	}
	return what
}

func TestAnySteps(t *testing.T) {
	r := rand.New(rand.NewSource(2))
	for range 400 {
		room := 64 + r.Intn(100)
		d, m := made(t, room), newModel(room)
		for range 200 {
			compare(t, anyStep(t, r, d, m), d, m)
		}
		d.On()
		m.on()
		compare(t, "On", d, m)
	}
}

func TestManySteps(t *testing.T) {
	// So many that going through all writes at each call would not end in time.
	many := 300000
	d := made(t, 1<<20)
	for range many {
		add(t, d, 0, "x")
		add(t, d, 1, "")
		add(t, d, 2, "y")
		if d.Sync(2) != api.OK {
			t.Fatal("P5.1: Sync is refused")
		}
	}
	fall(d, many, 1)
	got := [3]int{}
	for n := range got {
		b, _ := d.Read(n)
		got[n] = len(b)
	}
	// Every other write that is not safe is one of no bytes; number keep is not, and is left whole.
	if got != [3]int{many/2 + 1, 0, many} {
		t.Errorf("P5.2: a Crash behind many writes leaves %v bytes", got)
	}
}

// inRoom is b with spare room behind it, and that room whole.
func inRoom(b []byte) (list, room []byte) {
	room = append(bytes.Clone(b), bytes.Repeat([]byte{77}, 200)...)
	return room[:len(b)], room
}

// fill writes over a list and its spare room.
func fill(b []byte) {
	b = b[:cap(b)]
	for i := range b {
		b[i] = 99
	}
}

func TestAppendArguments(t *testing.T) {
	for _, s := range []string{"", "bytes"} {
		d := made(t, 64)
		b, room := inRoom([]byte(s))
		before := bytes.Clone(room)
		for _, file := range []int{0, 0, 1, -1} {
			d.Append(file, b)
			d.Append(0, []byte("more"))
			d.Spoil(0, 0, 255)
			d.Spoil(1, 0, 255)
		}
		d.Append(1, room)
		d.Sync(0)
		fall(d, 1, 1)
		d.Spoil(0, 0, 255)
		add(t, d, 1, "more")
		got, _ := d.Read(0)
		fill(got)
		if !bytes.Equal(room, before) {
			t.Errorf("R4: a disk changed or shares what was handed in")
		}
	}
}

func TestAppendKeepsNothing(t *testing.T) {
	d := made(t, 64)
	b, room := inRoom([]byte("ab"))
	d.Append(0, b)
	d.Append(1, b)
	d.Append(0, b)
	d.Spoil(0, 0, 32)
	fill(room)
	check(t, "R4", d, "0:Abab 1:ab")
	fall(d, 2, 1)
	check(t, "R4", d, "0:Aba 1:ab")
}

func TestReadIsNewMemory(t *testing.T) {
	d := made(t, 256)
	add(t, d, 0, "ab")
	add(t, d, 1, "")
	add(t, d, 0, "cd")
	one, _ := d.Read(0)
	two, _ := d.Read(0)
	empty, _ := d.Read(1)
	fill(one)
	fill(empty)
	if string(two) != "abcd" {
		t.Errorf("R4: two answers of Read share memory: %q", two)
	}
	check(t, "R4", d, "0:abcd 1:")
	// Nor is what was answered the disk's own, in its spare room or when it changes.
	d.Append(0, []byte("ef"))
	d.Append(1, []byte("gh"))
	d.Spoil(0, 0, 1)
	if string(two) != "abcd" {
		t.Errorf("R4: a later call changed what Read answered: %q", two)
	}
	check(t, "R4", d, "0:`bcdef 1:gh")
	fall(d, 0, 1)
	three, _ := d.Read(0)
	fill(three)
	add(t, d, 0, "xyz")
	check(t, "R4", d, "0:`xyz 1:")
}

func TestSpareRoomOfReadIsNew(t *testing.T) {
	// Sizes at which a list grows with room to spare, and behind a fall.
	for size := range 70 {
		d := made(t, 256)
		for i := range size {
			add(t, d, 0, string(rune('a'+i%26)))
		}
		before, _ := d.Read(0)
		want := string(before)
		fill(before)
		add(t, d, 0, "Z")
		again, _ := d.Read(0)
		if string(again) != want+"Z" {
			t.Fatalf("R4: Read's answer shares memory with the disk: %q", again)
		}
		fall(d, size/2, 0)
		cut, _ := d.Read(0)
		fill(cut)
		add(t, d, 0, "Z")
		if got, _ := d.Read(0); string(got) != want[:size/2]+"Z" {
			t.Fatalf("R4: Read's answer behind a fall shares memory with the disk: %q", got)
		}
	}
}

func TestFilesIsNewMemory(t *testing.T) {
	d := made(t, 64)
	for _, n := range []int{5, 3, 9} {
		add(t, d, n, "x")
	}
	one, two := d.Files(), d.Files()
	one = one[:cap(one)]
	for i := range one {
		one[i] = 77
	}
	add(t, d, 4, "y")
	d.Drop(3)
	if !slices.Equal(two, []int{3, 5, 9}) {
		t.Errorf("R4: what Files answered is changed by another answer or call: %v", two)
	}
	check(t, "R4", d, "4:y 5:x 9:x")
}
