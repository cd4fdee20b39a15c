package frame_test

import (
	"bytes"
	"encoding/binary"
	"hash/crc32"
	"math/rand"
	"testing"

	"rostrum/api"
	"rostrum/frame"
)

// someBytes is a row without a pattern, the same in each run.
func someBytes(seed int64, count int) []byte {
	row := make([]byte, count)
	rand.New(rand.NewSource(seed)).Read(row)
	return row
}

// framed is a record's frame, by the library's means.
func framed(rec []byte) []byte {
	length := binary.LittleEndian.AppendUint32(nil, uint32(len(rec)))
	sum := crc32.ChecksumIEEE(append(bytes.Clone(length), rec...))
	b := append([]byte{1}, length...)
	b = binary.LittleEndian.AppendUint32(b, sum)
	return append(b, rec...)
}

// row is the records' frames, one behind the other.
func row(recs ...[]byte) []byte {
	var b []byte
	for _, rec := range recs {
		b = append(b, framed(rec)...)
	}
	return b
}

// modelGet goes through the promise's sentence, error by error.
func modelGet(b []byte) ([]byte, []byte, api.Errno) {
	if len(b) == 0 {
		return nil, nil, api.EGAP
	}
	if b[0] != 1 {
		return nil, nil, api.EFORM
	}
	var four [4]byte
	copy(four[:], b[1:])
	length := int64(binary.LittleEndian.Uint32(four[:]))
	if length > 65536 {
		return nil, nil, api.EFORM
	}
	if int64(len(b)) < 9 || int64(len(b)) < 9+length {
		return nil, nil, api.EGAP
	}
	rec, rest := b[9:9+length], b[9+length:]
	if !bytes.Equal(b[:9+length], framed(rec)) {
		return nil, nil, api.EFORM
	}
	return rec, rest, api.OK
}

// modelScan is the promise's words with modelGet.
func modelScan(b []byte) ([][]byte, int, bool) {
	var recs [][]byte
	left := b
	for len(left) > 0 {
		rec, rest, err := modelGet(left)
		if err != api.OK {
			break
		}
		recs, left = append(recs, rec), rest
	}
	return recs, len(b) - len(left), len(left) == 0
}

func checkGet(t *testing.T, what string, b []byte) {
	t.Helper()
	rec, rest, err := frame.Get(b)
	wantRec, wantRest, want := modelGet(b)
	if !bytes.Equal(rec, wantRec) || !bytes.Equal(rest, wantRest) || err != want {
		t.Errorf("P3.1: Get of %s: %d and %d bytes, error %d, want %d and %d, error %d",
			what, len(rec), len(rest), err, len(wantRec), len(wantRest), want)
	}
}

func checkScan(t *testing.T, what string, b []byte) {
	t.Helper()
	recs, n, whole := frame.Scan(b)
	wantRecs, wantN, wantWhole := modelScan(b)
	if n != wantN || whole != wantWhole || !sameRecords(recs, wantRecs) {
		t.Errorf("P3.1: Scan of %s: %d records, %d, %v, want %d records, %d, %v",
			what, len(recs), n, whole, len(wantRecs), wantN, wantWhole)
	}
}

func sameRecords(a, b [][]byte) bool {
	if len(a) != len(b) {
		return false
	}
	for i := range a {
		if !bytes.Equal(a[i], b[i]) {
			return false
		}
	}
	return true
}

func put(t *testing.T, b, rec []byte) []byte {
	t.Helper()
	got, err := frame.Put(b, rec)
	if err != api.OK {
		t.Fatalf("P3.1: Put of %d bytes behind %d: error %d", len(rec), len(b), err)
	}
	return got
}

func TestExample(t *testing.T) {
	got := put(t, nil, []byte("ab"))
	want := []byte{1, 2, 0, 0, 0, 0x3a, 0x5a, 0x50, 0x23, 'a', 'b'}
	if !bytes.Equal(got, want) {
		t.Errorf("P3.1: Put(nil, ab): % x, want % x", got, want)
	}
}

func TestPut(t *testing.T) {
	for _, ahead := range [][]byte{nil, {}, {0}, []byte("x"), framed(nil), someBytes(1, 300)} {
		for _, size := range []int{0, 1, 2, 3, 255, 256, 257, 1000, 65535, 65536} {
			rec := someBytes(int64(size), size)
			got := put(t, ahead, rec)
			if want := append(bytes.Clone(ahead), framed(rec)...); !bytes.Equal(got, want) {
				t.Errorf("P3.1: Put of %d bytes behind %d: other bytes", size, len(ahead))
			}
		}
	}
}

func TestPutNilIsEmpty(t *testing.T) {
	want := []byte{1, 0, 0, 0, 0, 0x1c, 0xdf, 0x44, 0x21}
	for _, b := range [][]byte{nil, {}} {
		for _, rec := range [][]byte{nil, {}} {
			if got := put(t, b, rec); !bytes.Equal(got, want) {
				t.Errorf("P3.1: Put of no bytes: % x, want % x", got, want)
			}
		}
	}
}

func TestPutTooMuch(t *testing.T) {
	for _, size := range []int{65537, 65538, 65536 + 256, 1 << 17, 1 << 20} {
		for _, ahead := range [][]byte{nil, []byte("ahead")} {
			got, err := frame.Put(ahead, make([]byte, size))
			if len(got) != 0 || err != api.ELIMIT {
				t.Errorf("P3.1: Put of %d bytes: %d bytes, error %d", size, len(got), err)
			}
		}
	}
}

func TestPutBehindMuch(t *testing.T) {
	ahead := someBytes(2, 3*65536)
	if got := put(t, ahead, []byte("ab")); len(got) != len(ahead)+11 || !bytes.HasPrefix(got, ahead) {
		t.Errorf("P3.1: Put behind more than MaxFrame bytes: %d bytes", len(got))
	}
}

func TestGetWhatWasPut(t *testing.T) {
	for _, size := range []int{0, 1, 2, 255, 256, 257, 4000, 65535, 65536} {
		for _, behind := range [][]byte{nil, {0}, {1}, []byte("more"), framed([]byte("x")), someBytes(3, 70000)} {
			rec := someBytes(int64(size), size)
			gotRec, gotRest, err := frame.Get(append(put(t, nil, rec), behind...))
			if !bytes.Equal(gotRec, rec) || !bytes.Equal(gotRest, behind) || err != api.OK {
				t.Errorf("P3.1: Get of %d bytes, %d behind: %d, %d, error %d", size, len(behind), len(gotRec), len(gotRest), err)
			}
		}
	}
}

func TestGetRefusals(t *testing.T) {
	for _, c := range []struct {
		what string
		b    []byte
		want api.Errno
	}{
		{"nil", nil, api.EGAP},
		{"no bytes", []byte{}, api.EGAP},
		{"version 0 alone", []byte{0}, api.EFORM},
		{"version 2 alone", []byte{2}, api.EFORM},
		{"version 255 and a length above", []byte{255, 255, 255, 255, 255}, api.EFORM},
		{"the version alone", []byte{1}, api.EGAP},
		{"one byte of a length", []byte{1, 255}, api.EGAP},
		{"two bytes of a length", []byte{1, 255, 255}, api.EGAP},
		{"three bytes, MaxFrame", []byte{1, 0, 0, 1}, api.EGAP},
		{"three bytes, one above MaxFrame", []byte{1, 1, 0, 1}, api.EFORM},
		{"three bytes, 256 above MaxFrame", []byte{1, 0, 1, 1}, api.EFORM},
		{"three bytes, twice MaxFrame", []byte{1, 0, 0, 2}, api.EFORM},
		{"four bytes, MaxFrame", []byte{1, 0, 0, 1, 0}, api.EGAP},
		{"four bytes, one above MaxFrame", []byte{1, 1, 0, 1, 0}, api.EFORM},
		{"four bytes, the last alone", []byte{1, 0, 0, 0, 1}, api.EFORM},
		{"four bytes, the highest bit", []byte{1, 0, 0, 0, 128}, api.EFORM},
		{"four bytes, the greatest", []byte{1, 255, 255, 255, 255}, api.EFORM},
		{"nine bytes, the greatest length", []byte{1, 255, 255, 255, 255, 0, 0, 0, 0}, api.EFORM},
		{"eight bytes", []byte{1, 0, 0, 0, 0, 0x1c, 0xdf, 0x44}, api.EGAP},
		{"nine bytes, another sum", []byte{1, 0, 0, 0, 0, 0, 0, 0, 0}, api.EFORM},
		{"nine bytes, one too few, another sum", []byte{1, 1, 0, 0, 0, 0, 0, 0, 0}, api.EGAP},
		{"a sum with its bytes turned round", []byte{1, 0, 0, 0, 0, 0x21, 0x44, 0xdf, 0x1c}, api.EFORM},
		{"a sum of no bytes at all", []byte{1, 0, 0, 0, 0, 0, 0, 0, 0, 'a'}, api.EFORM},
	} {
		rec, rest, err := frame.Get(c.b)
		if err != c.want {
			t.Errorf("P3.1: Get of %s: error %d, want %d", c.what, err, c.want)
		}
		if len(rec)+len(rest) != 0 {
			t.Errorf("R2: Get of %s: %d and %d bytes beside the error", c.what, len(rec), len(rest))
		}
	}
}

func TestGetEachVersion(t *testing.T) {
	for v := range 256 {
		for _, b := range [][]byte{framed(nil), framed([]byte("ab")), {1}, {1, 0, 0, 2}} {
			b[0] = byte(v)
			if _, _, err := frame.Get(b); v != 1 && err != api.EFORM {
				t.Errorf("P3.1: Get of version %d and %d bytes: error %d", v, len(b), err)
			}
			checkGet(t, "a version", b)
		}
	}
}

func TestGetCutAtEveryPlace(t *testing.T) {
	for _, size := range []int{0, 1, 2, 30, 256, 300} {
		b := framed(someBytes(int64(size), size))
		for n := range b {
			rec, rest, err := frame.Get(b[:n])
			if err != api.EGAP || len(rec)+len(rest) != 0 {
				t.Errorf("P3.1: Get of %d bytes of %d: error %d", n, len(b), err)
			}
		}
	}
	most := framed(someBytes(4, 65536))
	for _, n := range []int{0, 1, 4, 5, 8, 9, 10, 65536, len(most) - 1} {
		if _, _, err := frame.Get(most[:n]); err != api.EGAP {
			t.Errorf("P3.1: Get of %d bytes of the most: error %d", n, err)
		}
	}
}

func TestGetEachBitSpoilt(t *testing.T) {
	for _, rec := range [][]byte{nil, []byte("ab"), make([]byte, 20), someBytes(5, 40)} {
		for _, behind := range [][]byte{nil, someBytes(6, 300)} {
			b := append(framed(rec), behind...)
			for i := range 8 * (9 + len(rec)) {
				b[i/8] ^= 1 << (i % 8)
				if _, _, err := frame.Get(b); err != api.EFORM && err != api.EGAP {
					t.Errorf("P3.1: Get, spoilt at bit %d: error %d", i, err)
				}
				checkGet(t, "a spoilt frame", b)
				b[i/8] ^= 1 << (i % 8)
			}
		}
	}
}

func TestGetEachByteSpoilt(t *testing.T) {
	b := framed([]byte("one"))
	for i := range b {
		for v := range 256 {
			x := bytes.Clone(b)
			x[i] = byte(v)
			checkGet(t, "a frame with another byte", x)
			checkGet(t, "a frame with another byte, more behind", append(x, framed([]byte("two"))...))
		}
	}
}

func TestLengthIsInTheSum(t *testing.T) {
	// A sum of the record alone would let this pass.
	rec := []byte("ab")
	b := binary.LittleEndian.AppendUint32([]byte{1, 2, 0, 0, 0}, crc32.ChecksumIEEE(rec))
	if _, _, err := frame.Get(append(b, rec...)); err != api.EFORM {
		t.Errorf("P3.1: Get with a sum without the length: error %d", err)
	}
	// And so one with the version in it.
	whole := append([]byte{1, 2, 0, 0, 0}, rec...)
	b = binary.LittleEndian.AppendUint32([]byte{1, 2, 0, 0, 0}, crc32.ChecksumIEEE(whole))
	if _, _, err := frame.Get(append(b, rec...)); err != api.EFORM {
		t.Errorf("P3.1: Get with a sum with the version: error %d", err)
	}
}

func TestLengthsAtTheLimit(t *testing.T) {
	// The sum is right, so that the length alone is the reason.
	for _, size := range []int{65536, 65537, 65538, 1 << 17} {
		b := framed(make([]byte, size))
		rec, rest, err := frame.Get(append(b, 7))
		if size <= 65536 && (err != api.OK || len(rec) != size || len(rest) != 1) {
			t.Errorf("P3.1: Get of %d bytes: %d, error %d", size, len(rec), err)
		}
		if size > 65536 && (err != api.EFORM || len(rec)+len(rest) != 0) {
			t.Errorf("P3.1: Get of %d bytes: %d, error %d", size, len(rec), err)
		}
		checkScan(t, "a record at the limit", b)
	}
}

func TestScanNothing(t *testing.T) {
	for _, b := range [][]byte{nil, {}} {
		if recs, n, whole := frame.Scan(b); len(recs) != 0 || n != 0 || !whole {
			t.Errorf("P3.1: Scan of no bytes: %d, %d, %v", len(recs), n, whole)
		}
	}
	for _, b := range [][]byte{{0}, {1}, {2}, {1, 0, 0, 2}, make([]byte, 100), framed([]byte("ab"))[1:]} {
		if recs, n, whole := frame.Scan(b); len(recs) != 0 || n != 0 || whole {
			t.Errorf("P3.1: Scan of % x: %d, %d, %v", b, len(recs), n, whole)
		}
	}
}

func TestScanCutAtEveryPlace(t *testing.T) {
	b := row([]byte("one"), nil, []byte("three"), nil, nil, someBytes(7, 300))
	ends := []int{12, 21, 35, 44, 53, 362}
	for n := range len(b) + 1 {
		count, end := 0, 0
		for i, k := range ends {
			if n >= k {
				count, end = i+1, k
			}
		}
		recs, got, whole := frame.Scan(b[:n])
		if len(recs) != count || got != end || whole != (n == end) {
			t.Errorf("P3.1: Scan of %d bytes: %d, %d, %v", n, len(recs), got, whole)
		}
		checkScan(t, "what is cut", b[:n])
	}
}

func TestScanSpoiltAtEveryPlace(t *testing.T) {
	b := row([]byte("one"), nil, []byte("three"), []byte{1, 0, 0, 0, 0})
	for i := range b {
		for _, bit := range []byte{1, 4, 64, 128} {
			b[i] ^= bit
			recs, n, whole := frame.Scan(b)
			if whole || n > i {
				t.Errorf("P3.1: Scan, spoilt at %d: %d records, %d, %v", i, len(recs), n, whole)
			}
			checkScan(t, "what is spoilt", b)
			b[i] ^= bit
		}
	}
}

func TestScanIsNotWhole(t *testing.T) {
	// Nothing behind what is refused is found again.
	b := append(row([]byte("one")), 0)
	b = append(b, row([]byte("two"))...)
	recs, n, whole := frame.Scan(b)
	if len(recs) != 1 || string(recs[0]) != "one" || n != 12 || whole {
		t.Errorf("P3.1: Scan with a byte between: %q, %d, %v", recs, n, whole)
	}
}

func TestScanARecordOfRecords(t *testing.T) {
	inner := row([]byte("one"), []byte("two"))
	recs, n, whole := frame.Scan(row(inner, []byte("three")))
	if len(recs) != 2 || !bytes.Equal(recs[0], inner) || string(recs[1]) != "three" || n != 9+24+14 || !whole {
		t.Errorf("P3.1: Scan of records in a record: %q, %d, %v", recs, n, whole)
	}
}

func TestScanManyRecords(t *testing.T) {
	// So many that a copy of the rest at each record would not end in time.
	many := 300000
	b := bytes.Repeat(framed([]byte("x")), many)
	recs, n, whole := frame.Scan(b)
	if len(recs) != many || n != len(b) || !whole {
		t.Errorf("P3.1: Scan of many: %d, %d, %v", len(recs), n, whole)
	}
}

func TestAnyRows(t *testing.T) {
	r := rand.New(rand.NewSource(8))
	for range 3000 {
		var b []byte
		var recs [][]byte
		for range r.Intn(5) {
			recs = append(recs, someBytes(r.Int63(), r.Intn(20)))
			b = put(t, b, recs[len(recs)-1])
		}
		if got, n, whole := frame.Scan(b); !sameRecords(got, recs) || n != len(b) || !whole {
			t.Fatalf("P3.1: Scan of what was Put: %q, %d, %v, want %q", got, n, whole, recs)
		}
		for range r.Intn(3) {
			if len(b) > 0 {
				b[r.Intn(len(b))] = byte(r.Intn(4))
			}
		}
		b = b[:r.Intn(len(b)+1)]
		checkGet(t, "any bytes", b)
		checkScan(t, "any bytes", b)
	}
}

func TestAnyBytes(t *testing.T) {
	r := rand.New(rand.NewSource(9))
	for range 20000 {
		b := someBytes(r.Int63(), r.Intn(16))
		for i := range b {
			if r.Intn(2) == 0 {
				b[i] = byte(r.Intn(3))
			}
		}
		checkGet(t, "any bytes", b)
		checkScan(t, "any bytes", b)
	}
}

// inRoom is b with spare room behind it, and that room whole.
func inRoom(b []byte) (list, room []byte) {
	room = append(bytes.Clone(b), bytes.Repeat([]byte{77}, 200)...)
	return room[:len(b)], room
}

// fill writes over a list and its spare room.
func fill(b []byte) {
	b = b[:cap(b)]
	for i := range b {
		b[i] = 99
	}
}

func TestPutArguments(t *testing.T) {
	b, roomB := inRoom([]byte("ahead"))
	rec, roomRec := inRoom([]byte("record"))
	beforeB, beforeRec := bytes.Clone(roomB), bytes.Clone(roomRec)
	got := put(t, b, rec)
	again := put(t, b, []byte("another"))
	want := append([]byte("ahead"), framed([]byte("record"))...)
	if !bytes.Equal(got, want) {
		t.Errorf("R4: the second Put changed what the first answered")
	}
	fill(got)
	fill(again)
	if !bytes.Equal(roomB, beforeB) || !bytes.Equal(roomRec, beforeRec) {
		t.Errorf("R4: Put changed or shares what was handed in")
	}
}

func TestPutOneListTwice(t *testing.T) {
	b, room := inRoom([]byte("both"))
	before := bytes.Clone(room)
	got := put(t, b, b)
	if want := append([]byte("both"), framed([]byte("both"))...); !bytes.Equal(got, want) {
		t.Errorf("P3.1: Put(b, b): % x", got)
	}
	got = put(t, b[:2], room[2:20])
	if want := append([]byte("bo"), framed(before[2:20])...); !bytes.Equal(got, want) {
		t.Errorf("P3.1: Put of what is behind b: % x", got)
	}
	if !bytes.Equal(room, before) {
		t.Errorf("R4: Put changed what was handed in")
	}
}

func TestPutRefusedArguments(t *testing.T) {
	b, roomB := inRoom([]byte("ahead"))
	rec, roomRec := inRoom(make([]byte, 65537))
	beforeB, beforeRec := bytes.Clone(roomB), bytes.Clone(roomRec)
	got, _ := frame.Put(b, rec)
	fill(got)
	if !bytes.Equal(roomB, beforeB) || !bytes.Equal(roomRec, beforeRec) {
		t.Errorf("R4: a refused Put changed or shares what was handed in")
	}
}

func TestGetArguments(t *testing.T) {
	for _, recText := range []string{"", "record"} {
		for _, behind := range []string{"", "behind"} {
			b, room := inRoom(append(framed([]byte(recText)), behind...))
			before := bytes.Clone(room)
			rec, rest, _ := frame.Get(b)
			fill(rec)
			if string(rest) != behind {
				t.Errorf("R4: Get's record and rest share memory")
			}
			fill(rest)
			if !bytes.Equal(room, before) {
				t.Errorf("R4: Get changed or shares what was handed in")
			}
		}
	}
}

func TestGetRefusedArguments(t *testing.T) {
	b := framed([]byte("record"))
	b[10] ^= 1
	for n := range len(b) + 1 {
		list, room := inRoom(b[:n])
		before := bytes.Clone(room)
		rec, rest, _ := frame.Get(list)
		fill(rec)
		fill(rest)
		if !bytes.Equal(room, before) {
			t.Errorf("R4: a refused Get changed or shares what was handed in")
		}
	}
}

func TestScanArguments(t *testing.T) {
	want := []string{"one", "", "three", "four"}
	for _, end := range []string{"", "\x01\x02", "\x00"} {
		b := row([]byte("one"), nil, []byte("three"), []byte("four"))
		b, room := inRoom(append(b, end...))
		before := bytes.Clone(room)
		recs, _, _ := frame.Scan(b)
		for i, rec := range recs {
			if string(rec) != want[i] {
				t.Errorf("R4: Scan's record %d shares memory with another: %q", i, rec)
			}
			fill(rec)
		}
		for _, rec := range recs[:cap(recs)] {
			fill(rec)
		}
		if !bytes.Equal(room, before) {
			t.Errorf("R4: Scan changed or shares what was handed in")
		}
		if again, _, _ := frame.Scan(b); len(again) != 4 || string(again[2]) != "three" {
			t.Errorf("R5: a second Scan of the same bytes: %q", again)
		}
	}
}

func TestNothingIsKept(t *testing.T) {
	rec := []byte("record")
	b := put(t, nil, rec)
	got, _, _ := frame.Get(b)
	recs, _, _ := frame.Scan(b)
	put(t, b, []byte("another"))
	fill(rec)
	fill(b)
	if string(got) != "record" || string(recs[0]) != "record" {
		t.Errorf("R4: what was answered changed with what was handed in: %q, %q", got, recs[0])
	}
	if again := put(t, nil, []byte("record")); !bytes.Equal(again, framed([]byte("record"))) {
		t.Errorf("R5: a later Put answers something else: % x", again)
	}
}
