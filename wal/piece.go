package wal

import (
	"cmp"
	"slices"

	"rostrum/api"
	"rostrum/disk"
)

// piece is what a file has of a log.
type piece struct {
	file  int
	age   int
	first int // its first entry's number; the others follow
	recs  [][]byte
	end   int  // where its last whole entry ends
	torn  bool // something is behind that, which a fall has left over
}

// readPieces reads all files; those without a whole entry are none.
func readPieces(d *disk.Disk) ([]piece, api.Errno) {
	var pieces []piece
	for _, file := range d.Files() {
		b, _ := d.Read(file)
		p, ok := readPiece(file, b)
		if !ok {
			return nil, api.EFORM
		}
		if len(p.recs) > 0 {
			pieces = append(pieces, p)
		}
	}
	return pieces, api.OK
}

// readPiece reads a file's entries till it ends or one is torn; false, if one is spoilt.
func readPiece(file int, b []byte) (piece, bool) {
	p := piece{file: file}
	for {
		h, rec, err := readEntry(b[p.end:])
		if err == api.EGAP {
			p.torn = p.end < len(b)
			return p, true
		}
		if err != api.OK {
			return piece{}, false
		}
		if len(p.recs) == 0 {
			p.age, p.first = h.age, h.number
		}
		if h.age != p.age || h.number != p.first+len(p.recs) {
			return piece{}, false
		}
		p.recs = append(p.recs, rec)
		p.end += entrySize + len(rec)
	}
}

// newest is those pieces that the last whole Keep and what is behind it are in,
// in their order; EFORM, if one is missing among them.
func newest(pieces []piece) ([]piece, api.Errno) {
	age := 0
	for _, p := range pieces {
		age = max(age, p.age)
	}
	pieces = slices.DeleteFunc(pieces, func(p piece) bool { return p.age != age })
	slices.SortFunc(pieces, func(a, b piece) int {
		return cmp.Or(cmp.Compare(a.first, b.first), cmp.Compare(len(b.recs), len(a.recs)))
	})
	next := 0
	if age == 0 {
		// Ahead of the first Keep there is no base on the disk.
		next = 1
	}
	var row []piece
	for _, p := range pieces {
		if p.first > next {
			return nil, api.EFORM
		}
		// One that begins ahead of that was moved: all that it has is in another file, too.
		if p.first == next {
			row = append(row, p)
			next += len(p.recs)
		}
	}
	return row, api.OK
}
