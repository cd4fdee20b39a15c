package wal

import (
	"rostrum/api"
	"rostrum/frame"
)

// An entry is a base or a record on the disk: a head, and its bytes in a frame.
// The head is a frame too, always of one size: so a length that is spoilt is
// told from an entry that a fall has torn.
const (
	frameSize  = 9 // a frame's bytes beside its record
	numberSize = 4
	headSize   = frameSize + 3*numberSize
	entrySize  = headSize + frameSize // an entry's bytes beside its record
)

// head tells where an entry belongs.
type head struct {
	age    int // how many Keeps were ahead of it, its own base's included
	number int // 0 of the base, 1 of the first record behind it
	length int
}

// entry is a record's bytes on the disk; the record is not above MaxFrame.
func entry(age, number int, rec []byte) []byte {
	top, _ := frame.Put(nil, numberBytes(age, number, len(rec)))
	whole, _ := frame.Put(top, rec)
	return whole
}

// readEntry takes b's first entry: EGAP, if b ends ahead of its end; EFORM, if it is spoilt.
func readEntry(b []byte) (head, []byte, api.Errno) {
	if len(b) < headSize {
		return head{}, nil, api.EGAP
	}
	h, ok := readHead(b[:headSize])
	if !ok {
		return head{}, nil, api.EFORM
	}
	end := entrySize + h.length
	if len(b) < end {
		return head{}, nil, api.EGAP
	}
	rec, rest, err := frame.Get(b[headSize:end])
	if err != api.OK || len(rest) > 0 {
		return head{}, nil, api.EFORM
	}
	return h, rec, api.OK
}

// readHead reads just so many bytes as a head has.
func readHead(b []byte) (head, bool) {
	rec, _, err := frame.Get(b)
	if err != api.OK || len(rec) != 3*numberSize {
		return head{}, false
	}
	h := head{age: number(rec), number: number(rec[numberSize:]), length: number(rec[2*numberSize:])}
	return h, h.length <= api.MaxFrame
}

// numberBytes is four bytes of each number, the lowest first.
func numberBytes(list ...int) []byte {
	var b []byte
	for _, n := range list {
		b = append(b, byte(n), byte(n>>8), byte(n>>16), byte(n>>24))
	}
	return b
}

// number is that of b's first four bytes.
func number(b []byte) int {
	n := 0
	for i, c := range b[:numberSize] {
		n |= int(c) << (8 * i)
	}
	return n
}
