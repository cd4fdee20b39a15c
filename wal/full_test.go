package wal_test

import (
	"fmt"
	"strings"
	"testing"

	"rostrum/api"
	"rostrum/disk"
	"rostrum/wal"
)

// used is how many bytes the files have together.
func used(d *disk.Disk) int {
	n := 0
	for _, s := range imageOf(d) {
		n += len(s)
	}
	return n
}

// ahead is what a log has when the disk is to be full; the disk has room for that.
type ahead struct {
	part int
	base string
	safe []string
	more []string // not synced
}

// set brings a log so far.
func (a ahead) set(t *testing.T, room int) (*disk.Disk, *wal.Log) {
	t.Helper()
	d := made(t, room)
	l := opened(t, d, a.part)
	if a.base != "" {
		must(t, "P6.1: Keep ahead of it", l.Keep([]byte(a.base)), api.OK)
	}
	add(t, l, a.safe...)
	must(t, "P6.1: Sync ahead of it", l.Sync(), api.OK)
	add(t, l, a.more...)
	return d, l
}

func (a ahead) recs() []string { return append(append([]string{}, a.safe...), a.more...) }

// aheads are such logs; each takes more than the least disk has.
func aheads() []ahead {
	var list []ahead
	for _, part := range []int{1, 2, 3, 1000} {
		list = append(list,
			ahead{part, "", []string{"a", "b"}, nil},
			ahead{part, "", []string{"a"}, []string{"b", strings.Repeat("c", 50)}},
			ahead{part, "base", nil, nil},
			ahead{part, strings.Repeat("base", 20), []string{"a", "", "b"}, []string{"c"}})
	}
	return list
}

// least is the least room with which a call of a log is not refused; with less
// it finds the disk full and leaves all as it was.
func least(t *testing.T, what string, a ahead, call func(l *wal.Log) api.Errno) int {
	t.Helper()
	d, _ := a.set(t, mostRoom)
	low := max(used(d), 64)
	for room := low; room < low+5000; room++ {
		d, l := a.set(t, room)
		err := call(l)
		if err == api.OK {
			if l.Done() {
				t.Errorf("P6.1: %s, room for %d bytes: OK, and it is done", what, room)
			}
			return room
		}
		must(t, fmt.Sprintf("P6.1: %s, room for %d bytes", what, room), err, api.EFULL)
		checkDone(t, what+", the disk full", l, told(a.base, a.recs()))
		check(t, "P6.1: "+what+", the disk full, opened again", opened(t, d, a.part), a.base, a.recs()...)
		if room%7 == 0 {
			checkFullFall(t, what, a, room, call)
		}
	}
	t.Fatalf("P6.1: %s: it is never taken", what)
	return 0
}

// checkFullFall lets the disk fall behind a call that found it full: no write of that call is left.
func checkFullFall(t *testing.T, what string, a ahead, room int, call func(l *wal.Log) api.Errno) {
	t.Helper()
	d, l := a.set(t, room)
	call(l)
	check(t, "P6.2: "+what+", the disk full, behind a fall that kept all", fall(t, d, a.part, 1000, 0), a.base, a.recs()...)
	d, l = a.set(t, room)
	call(l)
	check(t, "P6.2: "+what+", the disk full, behind a fall", fall(t, d, a.part, 0, 0), a.base, a.safe...)
}

func TestAddFull(t *testing.T) {
	for _, a := range aheads() {
		for _, recs := range [][]string{{""}, {strings.Repeat("z", 90)}, {"x", "y"}, {"", strings.Repeat("z", 90), "", "w"}} {
			call := func(l *wal.Log) api.Errno { return l.Add(records(recs...)...) }
			room := least(t, fmt.Sprintf("Add of %d", len(recs)), a, call)
			d, l := a.set(t, room)
			add(t, l, recs...)
			want := append(a.recs(), recs...)
			check(t, "P6.1: Add, the disk just full", l, a.base, want...)
			if n := used(d); n < room && room > 64 {
				t.Errorf("P6.1: Add is refused with room for %d bytes, and takes %d", room-1, n)
			}
			must(t, "P6.1: Add of none, the disk just full", l.Add(), api.OK)
			must(t, "P6.1: Sync, the disk just full", l.Sync(), api.OK)
			check(t, "P6.2: Add, the disk just full", fall(t, d, a.part, 0, 0), a.base, want...)
		}
	}
}

func TestSyncFull(t *testing.T) {
	for _, a := range aheads() {
		d, _ := a.set(t, mostRoom)
		room := max(used(d), 64)
		for spare := range 3 {
			d, l := a.set(t, room+spare)
			must(t, "P6.1: Sync, the disk just full", l.Sync(), api.OK)
			if l.Done() {
				t.Errorf("P6.1: Sync, the disk just full: it is done")
			}
			check(t, "P6.1: Sync, the disk just full", l, a.base, a.recs()...)
			check(t, "P6.2: Sync, the disk just full", fall(t, d, a.part, 0, 0), a.base, a.recs()...)
		}
	}
}

func TestKeepFull(t *testing.T) {
	for _, a := range aheads() {
		for _, base := range []string{"", "new", strings.Repeat("new", 50)} {
			room := least(t, "Keep", a, func(l *wal.Log) api.Errno { return l.Keep([]byte(base)) })
			d, l := a.set(t, room)
			must(t, "P6.1: Keep, the disk just full", l.Keep([]byte(base)), api.OK)
			check(t, "P6.1: Keep, the disk just full", l, base)
			if n := len(d.Files()); n != 1 {
				t.Errorf("P6.1: Keep, the disk just full: %d files behind it, want one", n)
			}
			check(t, "P6.2: Keep, the disk just full", fall(t, d, a.part, 0, 0), base)
		}
	}
}

func TestTooLongOnFullDisk(t *testing.T) {
	d := made(t, 64)
	l := opened(t, d, 2)
	for l.Add() == api.OK && used(d) == 0 {
		add(t, l, "")
	}
	must(t, "R6: Add of too much, the disk full", l.Add(make([]byte, api.MaxFrame+1)), api.ELIMIT)
	must(t, "R6: Keep of too much, the disk full", l.Keep(make([]byte, api.MaxFrame+1)), api.ELIMIT)
	if l.Done() {
		t.Errorf("P6.1: what is too long does not ask the disk: it is done")
	}
	must(t, "P6.1: Add of the most, the disk too small", l.Add(make([]byte, api.MaxFrame)), api.EFULL)
	checkDone(t, "the disk full", l, told("", []string{""}))
	l = opened(t, d, 2)
	check(t, "P6.1: a new log of a disk that was found full", l, "", "")
	must(t, "P6.1: Keep of the most, the disk too small", l.Keep(make([]byte, api.MaxFrame)), api.EFULL)
	checkDone(t, "the disk full at Keep", l, told("", []string{""}))
}

// A disk that is full to its last byte can still be opened behind a fall.
func TestOpenFull(t *testing.T) {
	for room := 64; room < 400; room++ {
		d := made(t, room)
		l := opened(t, d, 2)
		n := 0
		for l.Add([]byte("ab")) == api.OK {
			n++
			must(t, "P6.1: Sync", l.Sync(), api.OK)
		}
		l = fall(t, d, 2, 0, 0)
		if got := len(l.All()); got != n {
			t.Errorf("P6.2: room for %d bytes: %d records, want %d", room, got, n)
		}
	}
}
