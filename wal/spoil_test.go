package wal_test

import (
	"fmt"
	"testing"

	"rostrum/api"
	"rostrum/disk"
	"rostrum/wal"
)

// scene makes the same disk each time it is asked, with power and no log open.
type scene struct {
	what string
	make func() *disk.Disk
}

// scenes are disks on which all is safe.
func scenes(t *testing.T) []scene {
	var list []scene
	for part := 1; part <= 3; part++ {
		for _, steps := range []string{"as", "bs", "absbas", "k", "kk", "kas", "kabs", "akbsaas"} {
			list = append(list, scene{fmt.Sprintf("%s in parts of %d", steps, part), func() *disk.Disk {
				d := made(t, mostRoom)
				play(t, d, part, steps)
				return d
			}})
		}
		for _, steps := range []string{"a", "aasa", "kaa", "kasb"} {
			for _, torn := range []int{0, 1, 8, 20, 21, 22, 29, 30, 31} {
				list = append(list, scene{fmt.Sprintf("%s in parts of %d, torn at %d", steps, part, torn), func() *disk.Disk {
					d := made(t, mostRoom)
					play(t, d, part, steps)
					d.Crash(0, torn)
					d.On()
					return d
				}})
			}
		}
		list = append(list, scene{fmt.Sprintf("records behind a torn one in parts of %d", part), func() *disk.Disk {
			d := made(t, mostRoom)
			play(t, d, part, "aasaa")
			l := fall(t, d, part, 1, 25)
			add(t, l, "x", "y")
			l.Sync()
			return d
		}}, scene{fmt.Sprintf("a fall inside a Keep in parts of %d", part), func() *disk.Disk {
			before, file, data := keepFile(t, part, "kas", "new")
			before[file] = data[:len(data)-1]
			return lay(t, before)
		}}, scene{fmt.Sprintf("a fall behind a Keep's write in parts of %d", part), func() *disk.Disk {
			before, file, data := keepFile(t, part, "kas", "new")
			before[file] = data
			return lay(t, before)
		}})
	}
	return list
}

// checkSpoilt opens a disk of which a safe byte was spoilt.
func checkSpoilt(t *testing.T, s scene, d *disk.Disk, want string, file, at int, by byte) {
	t.Helper()
	what := fmt.Sprintf("%s, byte %d of file %d by %d", s.what, at, file, by)
	before := fmt.Sprint(imageOf(d))
	l, err := wal.Open(d, 2)
	switch {
	case err == api.OK:
		if got := show(l); got != want {
			t.Errorf("P6.2: %s: it has %s, want %s or EFORM", what, got, want)
		}
	case err != api.EFORM || l != nil:
		t.Errorf("P6.2: %s: error %d, want %d and no log", what, err, api.EFORM)
	default:
		if fmt.Sprint(imageOf(d)) != before {
			t.Errorf("R3: %s: an Open that is refused changes the disk", what)
		}
		d.Spoil(file, at, by)
		if got := show(opened(t, d, 2)); got != want {
			t.Errorf("R3: %s: mended, it has %s, want %s", what, got, want)
		}
	}
}

func TestSpoilt(t *testing.T) {
	for _, s := range scenes(t) {
		want := show(opened(t, s.make(), 2))
		files := imageOf(s.make())
		for file, data := range files {
			for at := range len(data) {
				for _, by := range []byte{1, 2, 4, 8, 16, 32, 64, 128, 255, data[at], data[at] ^ 1, byte(at)} {
					d := lay(t, files)
					if d.Spoil(file, at, by) {
						checkSpoilt(t, s, d, want, file, at, by)
					}
				}
			}
		}
	}
}

// A byte of the last record alone is spoilt in every way.
func TestSpoiltByAll(t *testing.T) {
	s := scene{"a record behind a base", func() *disk.Disk {
		d := made(t, mostRoom)
		play(t, d, 2, "kas")
		return d
	}}
	want := show(opened(t, s.make(), 2))
	files := imageOf(s.make())
	for file, data := range files {
		for at := range len(data) {
			for by := range 255 {
				d := lay(t, files)
				d.Spoil(file, at, byte(by+1))
				checkSpoilt(t, s, d, want, file, at, byte(by+1))
			}
		}
	}
}

// A spoilt record is told by EFORM, wherever it is.
func TestSpoiltRecordsAreTold(t *testing.T) {
	for _, part := range []int{1, 2, 1000} {
		d := made(t, mostRoom)
		l := opened(t, d, part)
		must(t, "P6.1: Keep", l.Keep([]byte("?base?")), api.OK)
		add(t, l, "?one?", "?two?", "?three?")
		l.Sync()
		files := imageOf(d)
		told := 0
		for file, data := range files {
			for at := range len(data) {
				if data[at] != '?' {
					continue
				}
				told++
				d := lay(t, files)
				d.Spoil(file, at, 1)
				if l, err := wal.Open(d, part); l != nil || err != api.EFORM {
					t.Errorf("P6.2: parts of %d, a record is spoilt: error %d, want %d", part, err, api.EFORM)
				}
			}
		}
		if told < 8 {
			t.Errorf("P6.2: parts of %d: the records' bytes are not found", part)
		}
	}
}

// A safe byte is spoilt while there are writes that are not safe, and a fall tears these.
func TestSpoiltAheadOfFall(t *testing.T) {
	for part := 1; part <= 3; part++ {
		for torn := range 40 {
			d := made(t, mostRoom)
			_, h := play(t, d, part, "kasaa")
			d.Crash(1, torn)
			d.On()
			want := show(opened(t, d, part))
			first := d.Files()[0]
			for at := range 40 {
				d := made(t, mostRoom)
				play(t, d, part, "kasaa")
				if !d.Spoil(first, at, 5) {
					continue
				}
				d.Crash(1, torn)
				d.On()
				l, err := wal.Open(d, part)
				if err == api.OK && show(l) != want || err != api.OK && err != api.EFORM {
					t.Errorf("P6.2: parts of %d, byte %d spoilt, Crash(1, %d): error %d, of %q", part, at, torn, err, h.recs)
				}
			}
		}
	}
}

// An Open that is refused makes nothing safe.
func TestRefusedOpenMakesNothingSafe(t *testing.T) {
	for part := 1; part <= 3; part++ {
		d := made(t, mostRoom)
		_, h := play(t, d, part, "kasaa")
		file := d.Files()[0]
		if !d.Spoil(file, 0, 1) {
			t.Fatalf("P5.1: Spoil finds no byte")
		}
		if l, err := wal.Open(d, part); l != nil || err != api.EFORM {
			t.Errorf("P6.1: Open of a spoilt log: error %d, want %d", err, api.EFORM)
		}
		if l, err := wal.Open(d, 0); l != nil || err != api.EARG {
			t.Errorf("R6: Open of a spoilt log with no part: error %d, want %d", err, api.EARG)
		}
		d.Spoil(file, 0, 1)
		check(t, "R3: behind an Open that was refused", fall(t, d, part, 0, 0), h.base, h.recs[:h.safe]...)
	}
}

// Spoilt bytes of an elder log are gone with it.
func TestKeepOverSpoilt(t *testing.T) {
	d := made(t, mostRoom)
	l, _ := play(t, d, 2, "kaasa")
	for _, file := range d.Files() {
		d.Spoil(file, 30, 1)
	}
	must(t, "P6.1: Keep of a log that is spoilt", l.Keep([]byte("new")), api.OK)
	add(t, l, "a")
	check(t, "P6.2: Keep of a log that is spoilt", opened(t, d, 2), "new", "a")
}
