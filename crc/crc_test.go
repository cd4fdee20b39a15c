package crc_test

import (
	"bytes"
	"hash/crc32"
	"math/rand"
	"strings"
	"testing"

	"rostrum/crc"
)

// model sums bit by bit, straight from the promise's words.
func model(parts ...[]byte) uint32 {
	sum := ^uint32(0)
	for _, b := range bytes.Join(parts, nil) {
		for i := range 8 {
			odd := sum&1 != uint32(b>>i&1)
			sum >>= 1
			if odd {
				sum ^= 0xEDB88320
			}
		}
	}
	return ^sum
}

// allBytes is the 256 bytes in their order.
func allBytes() []byte {
	all := make([]byte, 256)
	for i := range all {
		all[i] = byte(i)
	}
	return all
}

// someBytes is a row without a pattern, the same in each run.
func someBytes(seed int64, count int) []byte {
	row := make([]byte, count)
	rand.New(rand.NewSource(seed)).Read(row)
	return row
}

func TestKnownSums(t *testing.T) {
	for _, c := range []struct {
		s    string
		want uint32
	}{
		{"123456789", 3421780262}, // the chapter's example
		{"", 0},
		{"\x00", 0xD202EF8D},
		{"\xff", 0xFF000000},
		{"a", 0xE8B7BE43},
		{"abc", 0x352441C2},
		{"The quick brown fox jumps over the lazy dog", 0x414FA339},
		{strings.Repeat("\x00", 32), 0x190A55AD},
		{strings.Repeat("\xff", 32), 0xFF6CAB0B},
		{string(allBytes()), 0x29058C73},
	} {
		if got := crc.Of([]byte(c.s)); got != c.want {
			t.Errorf("P2.1: Of(%q): %#x, want %#x", c.s, got, c.want)
		}
	}
}

func TestNoBytes(t *testing.T) {
	var none [][]byte
	for _, parts := range [][][]byte{
		none, {}, {nil}, {{}}, {nil, nil}, {{}, nil, {}}, make([][]byte, 1000),
	} {
		if got := crc.Of(parts...); got != 0 {
			t.Errorf("P2.1: Of of %d parts without bytes: %#x", len(parts), got)
		}
	}
	if got := crc.Of(); got != 0 {
		t.Errorf("P2.1: Of of no part: %#x", got)
	}
}

func TestEachByte(t *testing.T) {
	for i := range 256 {
		one := []byte{byte(i)}
		if got, want := crc.Of(one), model(one); got != want {
			t.Errorf("P2.1: Of of the byte %d: %#x, want %#x", i, got, want)
		}
	}
}

func TestEachTwoBytes(t *testing.T) {
	seen := map[uint32]bool{}
	for i := range 1 << 16 {
		two := []byte{byte(i), byte(i >> 8)}
		got := crc.Of(two)
		if want := model(two); got != want {
			t.Fatalf("P2.1: Of(%v): %#x, want %#x", two, got, want)
		}
		seen[got] = true
	}
	if len(seen) != 1<<16 {
		t.Errorf("P2.1: %d sums of all pairs of bytes", len(seen))
	}
}

func TestNoughtsCount(t *testing.T) {
	seen := map[uint32]int{}
	for n := range 1000 {
		sum := crc.Of(make([]byte, n))
		if m, ok := seen[sum]; ok {
			t.Fatalf("P2.1: %d and %d noughts: both %#x", m, n, sum)
		}
		seen[sum] = n
	}
}

func TestManyRows(t *testing.T) {
	for n := range 600 {
		row := someBytes(int64(n), n)
		got := crc.Of(row)
		if got != model(row) || got != crc32.ChecksumIEEE(row) {
			t.Fatalf("P2.1: Of(%v): %#x, want %#x", row, got, model(row))
		}
	}
}

func TestLongRow(t *testing.T) {
	row := someBytes(1, 1<<20)
	if got, want := crc.Of(row), crc32.ChecksumIEEE(row); got != want {
		t.Errorf("P2.1: Of of 2^20 bytes: %#x, want %#x", got, want)
	}
}

func TestEveryPartingInThree(t *testing.T) {
	row := someBytes(2, 40)
	want := model(row)
	for i := range len(row) + 1 {
		for j := i; j <= len(row); j++ {
			if got := crc.Of(row[:i], row[i:j], row[j:]); got != want {
				t.Errorf("P2.1: parted at %d and %d: %#x, want %#x", i, j, got, want)
			}
			if got := crc.Of(nil, row[:i], nil, []byte{}, row[i:j], row[j:], nil); got != want {
				t.Errorf("P2.1: parted at %d and %d, nil among them: %#x, want %#x", i, j, got, want)
			}
		}
	}
}

func TestAnyParts(t *testing.T) {
	r := rand.New(rand.NewSource(3))
	for range 500 {
		row := someBytes(r.Int63(), r.Intn(200))
		var parts [][]byte
		for rest := row; len(rest) > 0; {
			n := r.Intn(min(len(rest), 9) + 1)
			parts = append(parts, rest[:n])
			rest = rest[n:]
		}
		if got, want := crc.Of(parts...), model(row); got != want {
			t.Fatalf("P2.1: Of(%v): %#x, want %#x", parts, got, want)
		}
	}
}

func TestOneByteAPart(t *testing.T) {
	all := allBytes()
	parts := make([][]byte, 0, len(all))
	for i := range all {
		parts = append(parts, all[i:i+1])
	}
	if got := crc.Of(parts...); got != 0x29058C73 {
		t.Errorf("P2.1: all 256 bytes, a part each: %#x", got)
	}
}

func TestOrderOfParts(t *testing.T) {
	a, b := []byte("ab"), []byte("cd")
	if crc.Of(a, b) == crc.Of(b, a) {
		t.Errorf("P2.1: the parts' order makes no difference")
	}
	if got, want := crc.Of(a, b, a), model([]byte("abcdab")); got != want {
		t.Errorf("P2.1: one part twice: %#x, want %#x", got, want)
	}
}

func TestArgumentsStay(t *testing.T) {
	room := someBytes(4, 100)
	before := bytes.Clone(room)
	list := [][]byte{room[10:20], nil, room[20:60:70], {}, room[15:30], room[90:]}
	spare := append(list, room[:5])[:len(list)]
	crc.Of(spare...)
	if !bytes.Equal(room, before) {
		t.Errorf("R4: the bytes were changed")
	}
	for i, want := range [][]byte{room[10:20], nil, room[20:60], {}, room[15:30], room[90:], room[:5]} {
		got := spare[:len(list)+1][i]
		if !bytes.Equal(got, want) || len(got) > 0 && &got[0] != &want[0] || (got == nil) != (want == nil) {
			t.Errorf("R4: part %d of the list was changed", i)
		}
	}
}

func TestNothingIsKept(t *testing.T) {
	row := []byte("123456789")
	first := crc.Of(row)
	crc.Of([]byte("something else"))
	if got := crc.Of(row); got != first {
		t.Errorf("R5: one row, %#x and %#x", first, got)
	}
	row[0] = '0'
	if got, want := crc.Of(row), model([]byte("023456789")); got != want {
		t.Errorf("R4: the row was kept: %#x, want %#x", got, want)
	}
}
