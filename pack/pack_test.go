package pack_test

import (
	"bytes"
	"encoding/binary"
	"math"
	"math/big"
	"math/rand"
	"strings"
	"testing"

	"rostrum/pack"
)

// modelNum is a number's bytes by the chapter's words, with numbers that have no bound.
func modelNum(v int64) []byte {
	n := big.NewInt(v)
	n.Mul(n, big.NewInt(2))
	if v < 0 {
		n.Neg(n)
		n.Sub(n, big.NewInt(1))
	}
	var b []byte
	for {
		group := new(big.Int)
		n.DivMod(n, big.NewInt(128), group)
		if n.Sign() == 0 {
			return append(b, byte(group.Int64()))
		}
		b = append(b, byte(group.Int64()+128))
	}
}

// modelGet reads a number by what the library reads, which takes groups of nought at the end, too.
func modelGet(b []byte) (v int64, length int) {
	v, length = binary.Varint(b)
	if length <= 0 || !bytes.Equal(modelNum(v), b[:length]) {
		return 0, 0
	}
	return v, length
}

// numbers are those at each length of groups, on both sides, and some in between.
func numbers() []int64 {
	list := []int64{0, 1, -1, 2, -2, 150, -150, math.MaxInt64, math.MinInt64, math.MaxInt64 - 1, math.MinInt64 + 1}
	for bits := range 63 {
		p := int64(1) << bits
		list = append(list, p-1, p, p+1, -p+1, -p, -p-1)
	}
	return list
}

const (
	lowest  = math.MinInt64
	highest = math.MaxInt64
)

// rowOf is that many bytes alike, and a last one.
func rowOf(count int, group, last byte) []byte {
	return append(bytes.Repeat([]byte{group}, count), last)
}

// checkBad tells whether a reader is bad and stays so, with zeros, whatever is asked.
func checkBad(t *testing.T, what string, r *pack.Reader) {
	t.Helper()
	for range 3 {
		if !r.Bad() || r.End() {
			t.Errorf("P4.1: %s: Bad %v, End %v", what, r.Bad(), r.End())
		}
		if n := r.Num(lowest, highest); n != 0 {
			t.Errorf("P4.1: %s: a bad reader's Num: %d", what, n)
		}
		if n := r.Num(5, 9); n != 0 {
			t.Errorf("P4.1: %s: a bad reader's Num from 5 on: %d", what, n)
		}
		if x := r.Bytes(1000); len(x) != 0 {
			t.Errorf("P4.1: %s: a bad reader's Bytes: %q", what, x)
		}
		if s := r.Text(1000); s != "" {
			t.Errorf("P4.1: %s: a bad reader's Text: %q", what, s)
		}
	}
}

// checkGood tells whether a reader is not bad, and whether it has read all just if it should have.
func checkGood(t *testing.T, what string, r *pack.Reader, end bool) {
	t.Helper()
	for range 2 {
		if r.Bad() || r.End() != end {
			t.Errorf("P4.1: %s: Bad %v, End %v, want false, %v", what, r.Bad(), r.End(), end)
		}
	}
}

func TestExamples(t *testing.T) {
	for _, c := range []struct {
		v    int64
		want []byte
	}{{-1, []byte{1}}, {150, []byte{172, 2}}} {
		if got := pack.Num(nil, c.v); !bytes.Equal(got, c.want) {
			t.Errorf("P4.1: Num(nil, %d): %v, want %v", c.v, got, c.want)
		}
	}
}

func TestNumWritten(t *testing.T) {
	for _, ahead := range [][]byte{nil, {}, {0}, {128}, []byte("ahead"), bytes.Repeat([]byte{255}, 300)} {
		for _, v := range numbers() {
			want := append(bytes.Clone(ahead), modelNum(v)...)
			if got := pack.Num(ahead, v); !bytes.Equal(got, want) {
				t.Errorf("P4.1: Num of %d behind %d bytes: % x, want % x", v, len(ahead), got, want)
			}
		}
	}
}

func TestNumByHand(t *testing.T) {
	for _, c := range []struct {
		v    int64
		want []byte
	}{
		{0, []byte{0}}, {1, []byte{2}}, {-2, []byte{3}}, {63, []byte{126}}, {-64, []byte{127}},
		{64, []byte{128, 1}}, {-65, []byte{129, 1}}, {8191, []byte{254, 127}}, {-8192, []byte{255, 127}},
		{8192, []byte{128, 128, 1}}, {-8193, []byte{129, 128, 1}},
		{1<<62 - 1, append([]byte{254}, rowOf(7, 255, 127)...)}, {1 << 62, rowOf(9, 128, 1)},
		{highest, append([]byte{254}, rowOf(8, 255, 1)...)}, {lowest, rowOf(9, 255, 1)},
	} {
		if got := pack.Num(nil, c.v); !bytes.Equal(got, c.want) {
			t.Errorf("P4.1: Num of %d: %v, want %v", c.v, got, c.want)
		}
	}
}

func TestNumReadAgain(t *testing.T) {
	for _, v := range numbers() {
		b := pack.Num(nil, v)
		r := pack.Read(b)
		checkGood(t, "before a number", r, false)
		if got := r.Num(lowest, highest); got != v {
			t.Errorf("P4.1: Num of %d read again: %d", v, got)
		}
		checkGood(t, "behind a number", r, true)
		r = pack.Read(append(b, 0))
		if got := r.Num(lowest, highest); got != v {
			t.Errorf("P4.1: Num of %d read again, more behind: %d", v, got)
		}
		checkGood(t, "with more behind", r, false)
	}
}

func TestNumBounds(t *testing.T) {
	for _, v := range numbers() {
		b := append(pack.Num(nil, v), 4)
		for _, least := range []int64{lowest, v - 1, v, v + 1, 0, 1, highest} {
			for _, most := range []int64{highest, v + 1, v, v - 1, 0, -1, lowest} {
				r := pack.Read(b)
				got := r.Num(least, most)
				if least <= v && v <= most {
					if got != v || r.Bad() || r.Num(2, 2) != 2 || !r.End() {
						t.Errorf("P4.1: Num of %d from %d to %d: %d, Bad %v", v, least, most, got, r.Bad())
					}
					continue
				}
				if got != 0 {
					t.Errorf("P4.1: Num of %d from %d to %d: %d", v, least, most, got)
				}
				checkBad(t, "a number out of its bounds", r)
			}
		}
	}
}

func TestNumNoBounds(t *testing.T) {
	for _, v := range []int64{-6, -5, 0, 5, 6} {
		for _, c := range [][2]int64{{5, -5}, {1, 0}, {0, -1}, {highest, lowest}, {6, 5}} {
			r := pack.Read(pack.Num(nil, v))
			if got := r.Num(c[0], c[1]); got != 0 {
				t.Errorf("P4.1: Num of %d from %d to %d: %d", v, c[0], c[1], got)
			}
			checkBad(t, "least above most", r)
		}
	}
}

func TestNumNotAsTold(t *testing.T) {
	cases := map[string][]byte{
		"nothing there":                 nil,
		"one group cut":                 {128},
		"one group cut, greater":        {255},
		"nought in two groups":          {128, 0},
		"one in two groups":             {130, 0},
		"nought in three groups":        {128, 128, 0},
		"three groups, the last nought": {255, 128, 0},
		"three groups, two noughts":     {255, 255, 0},
		"ten groups, the last nought":   rowOf(9, 255, 0),
		"ten groups of nought":          rowOf(9, 128, 0),
		"ten groups, the last 2":        rowOf(9, 255, 2),
		"ten groups, the last 3":        rowOf(9, 128, 3),
		"ten groups, the last 64":       rowOf(9, 128, 64),
		"ten groups, the last 127":      rowOf(9, 255, 127),
		"ten groups cut":                rowOf(9, 255, 129),
		"ten groups cut at nought":      rowOf(9, 128, 128),
		"eleven groups":                 rowOf(10, 255, 1),
		"eleven groups, the last 0":     rowOf(10, 128, 0),
		"eleven groups, the tenth 129":  {128, 128, 128, 128, 128, 128, 128, 128, 128, 129, 0},
		"nineteen groups":               rowOf(18, 128, 1),
		"a hundred groups":              rowOf(99, 129, 1),
		"groups without an end":         bytes.Repeat([]byte{128}, 5000),
	}
	for what, b := range cases {
		for name, ask := range asks() {
			r := pack.Read(b)
			ask(r)
			checkBad(t, name+" of "+what, r)
		}
	}
}

// asks are the reader's calls, with bounds that let all pass.
func asks() map[string]func(r *pack.Reader) {
	return map[string]func(r *pack.Reader){
		"Num":   func(r *pack.Reader) { r.Num(lowest, highest) },
		"Bytes": func(r *pack.Reader) { r.Bytes(math.MaxInt) },
		"Text":  func(r *pack.Reader) { r.Text(math.MaxInt) },
	}
}

func TestNumCutAtEveryPlace(t *testing.T) {
	for _, v := range numbers() {
		b := pack.Num(nil, v)
		for n := range b {
			r := pack.Read(b[:n])
			if got := r.Num(lowest, highest); got != 0 {
				t.Errorf("P4.1: Num of %d bytes of %d's: %d", n, v, got)
			}
			checkBad(t, "a cut number", r)
		}
	}
}

func TestNumWithMoreGroups(t *testing.T) {
	for _, v := range numbers() {
		b := pack.Num(nil, v)
		for range 3 {
			b[len(b)-1] |= 128
			b = append(b, 0)
			r := pack.Read(b)
			if got := r.Num(lowest, highest); got != 0 {
				t.Errorf("P4.1: Num of %d in too many groups: %d", v, got)
			}
			checkBad(t, "more groups than needed", r)
		}
	}
}

func TestNumOfEachTwoBytes(t *testing.T) {
	for n := range 1 << 16 {
		b := []byte{byte(n), byte(n >> 8)}
		want, length := modelGet(b)
		r := pack.Read(b)
		if got := r.Num(lowest, highest); got != want || r.Bad() != (length == 0) || r.End() != (length == 2) {
			t.Fatalf("P4.1: Num of % x: %d, Bad %v, End %v, want %d and %d bytes", b, got, r.Bad(), r.End(), want, length)
		}
	}
}

// texts are of no bytes, of few, and of as many as need another length of groups.
func texts() []string {
	list := []string{"", "a", "bc", "\x00", "\xff\x80", "aé"}
	for _, size := range []int{63, 64, 8191, 8192, 100000} {
		list = append(list, strings.Repeat("xyz", size/3+1)[:size])
	}
	return list
}

func TestBytesAndTextWritten(t *testing.T) {
	for _, ahead := range [][]byte{nil, {}, {0}, []byte("ahead"), bytes.Repeat([]byte{255}, 300)} {
		for _, s := range texts() {
			want := append(append(bytes.Clone(ahead), modelNum(int64(len(s)))...), s...)
			if got := pack.Bytes(ahead, []byte(s)); !bytes.Equal(got, want) {
				t.Errorf("P4.1: Bytes of %d behind %d: other bytes", len(s), len(ahead))
			}
			if got := pack.Text(ahead, s); !bytes.Equal(got, want) {
				t.Errorf("P4.1: Text of %d behind %d: other bytes", len(s), len(ahead))
			}
		}
	}
	if got := pack.Bytes(nil, nil); !bytes.Equal(got, []byte{0}) {
		t.Errorf("P4.1: Bytes(nil, nil): %v", got)
	}
	if got := pack.Text([]byte("a"), "bc"); !bytes.Equal(got, []byte{'a', 4, 'b', 'c'}) {
		t.Errorf("P4.1: Text(a, bc): %v", got)
	}
}

func TestBytesAndTextBounds(t *testing.T) {
	for _, s := range texts() {
		b := append(pack.Text(nil, s), 4)
		for _, most := range []int{len(s), len(s) + 1, math.MaxInt, len(s) - 1, 0, -1, -2, math.MinInt} {
			rb, rt := pack.Read(b), pack.Read(b)
			x, text := rb.Bytes(most), rt.Text(most)
			if most >= len(s) {
				if string(x) != s || text != s {
					t.Errorf("P4.1: %d bytes, at most %d: %d and %d", len(s), most, len(x), len(text))
				}
				checkGood(t, "Bytes", rb, false)
				checkGood(t, "Text", rt, false)
				if rb.Num(2, 2) != 2 || rt.Num(2, 2) != 2 || !rb.End() || !rt.End() {
					t.Errorf("P4.1: what is behind %d bytes is not read", len(s))
				}
				continue
			}
			if len(x) != 0 || text != "" {
				t.Errorf("P4.1: %d bytes, at most %d: %d and %d", len(s), most, len(x), len(text))
			}
			checkBad(t, "more Bytes than most", rb)
			checkBad(t, "more Text than most", rt)
		}
	}
}

func TestBytesNotThere(t *testing.T) {
	for _, s := range texts()[1:10] {
		b := pack.Text(nil, s)
		for _, n := range []int{0, 1, len(b) / 2, len(b) - 2, len(b) - 1} {
			rb, rt := pack.Read(b[:n]), pack.Read(b[:n])
			if x, text := rb.Bytes(len(s)), rt.Text(len(s)); len(x) != 0 || text != "" {
				t.Errorf("P4.1: %d of %d bytes: %d and %d", n, len(b), len(x), len(text))
			}
			checkBad(t, "cut Bytes", rb)
			checkBad(t, "cut Text", rt)
		}
	}
}

func TestBytesOfAnyCount(t *testing.T) {
	for _, count := range numbers() {
		if count >= 0 && count <= 9 {
			continue
		}
		b := append(pack.Num(nil, count), "some more"...)
		rb, rt := pack.Read(b), pack.Read(b)
		rb.Bytes(math.MaxInt)
		rt.Text(math.MaxInt)
		checkBad(t, "Bytes of a count that can't be", rb)
		checkBad(t, "Text of a count that can't be", rt)
	}
}

func TestBytesInsideMoreBytes(t *testing.T) {
	// What is told inside bytes is not read as if it stood beside them.
	inner := pack.Num(pack.Text(nil, "in"), 7)
	r := pack.Read(pack.Text(pack.Bytes(nil, inner), "out"))
	x := r.Bytes(len(inner))
	if !bytes.Equal(x, inner) || r.Text(3) != "out" || !r.End() {
		t.Errorf("P4.1: bytes in bytes: % x", x)
	}
	again := pack.Read(x)
	if again.Text(2) != "in" || again.Num(7, 7) != 7 || !again.End() {
		t.Errorf("P4.1: what was in the bytes is not read again")
	}
}

func TestEnd(t *testing.T) {
	for _, b := range [][]byte{nil, {}} {
		r := pack.Read(b)
		checkGood(t, "a reader of nothing", r, true)
		r.Num(0, 0)
		checkBad(t, "a number behind nothing", r)
	}
	r := pack.Read(pack.Text(pack.Num(nil, 0), ""))
	checkGood(t, "nothing was read", r, false)
	r.Num(0, 0)
	checkGood(t, "the number was read", r, false)
	r.Text(0)
	checkGood(t, "all was read", r, true)
	r.Text(0)
	checkBad(t, "a text behind all", r)
}

func TestBadWhatIsGoodBehind(t *testing.T) {
	// Nothing behind what is wrong is found again, not even by bounds that would do.
	for _, wrong := range [][]byte{{128, 0}, rowOf(9, 255, 2)} {
		b := append(bytes.Clone(wrong), 2, 2, 2, 'a', 2, 'b')
		for name, ask := range asks() {
			r := pack.Read(b)
			ask(r)
			checkBad(t, name+" with good ones behind", r)
		}
	}
	r := pack.Read([]byte{2, 2, 'a', 2})
	r.Num(2, 9)
	checkBad(t, "a number below least, with good ones behind", r)
	r = pack.Read([]byte{4, 2, 'a', 2})
	r.Bytes(1)
	checkBad(t, "bytes above most, with good ones behind", r)
}

func TestReadersAreApart(t *testing.T) {
	b := pack.Num(pack.Num(nil, 1), 2)
	one, two := pack.Read(b), pack.Read(b)
	one.Num(5, 5)
	checkBad(t, "one of two readers", one)
	checkGood(t, "the other reader", two, false)
	if two.Num(1, 1) != 1 || two.Num(2, 2) != 2 || !two.End() {
		t.Errorf("P4.1: a reader is told something by another one's reading")
	}
}

// part is one thing that is written: of kind 0 a number, 1 bytes, 2 a text.
type part struct {
	kind int
	v    int64
	s    string
}

func anyPart(r *rand.Rand) part {
	p := part{kind: r.Intn(3)}
	if p.kind == 0 {
		p.v = int64(r.Uint64()) >> r.Intn(64)
		return p
	}
	s := make([]byte, r.Intn(100)*r.Intn(2)+r.Intn(3))
	r.Read(s)
	p.s = string(s)
	return p
}

func write(b []byte, p part) []byte {
	if p.kind == 0 {
		return pack.Num(b, p.v)
	}
	if p.kind == 1 {
		return pack.Bytes(b, []byte(p.s))
	}
	return pack.Text(b, p.s)
}

func readPart(r *pack.Reader, p part) part {
	if p.kind == 0 {
		return part{0, r.Num(lowest, highest), ""}
	}
	if p.kind == 1 {
		return part{1, 0, string(r.Bytes(200))}
	}
	return part{2, 0, r.Text(200)}
}

func TestAnyRows(t *testing.T) {
	rnd := rand.New(rand.NewSource(1))
	for range 3000 {
		var b []byte
		var parts []part
		var ends []int
		for range rnd.Intn(8) {
			parts = append(parts, anyPart(rnd))
			b = write(b, parts[len(parts)-1])
			ends = append(ends, len(b))
		}
		r := pack.Read(b)
		for i, p := range parts {
			if r.End() {
				t.Fatalf("P4.1: End before part %d of %d", i, len(parts))
			}
			if got := readPart(r, p); got != p {
				t.Fatalf("P4.1: part %d read again: %v, want %v", i, got, p)
			}
		}
		checkGood(t, "all parts read", r, true)
		if len(b) > 0 {
			checkCut(t, b[:rnd.Intn(len(b))], parts, ends)
		}
	}
}

// checkCut reads what is left of a row: the parts that are whole, and then it is bad.
func checkCut(t *testing.T, b []byte, parts []part, ends []int) {
	t.Helper()
	r := pack.Read(b)
	for i, p := range parts {
		got := readPart(r, p)
		if ends[i] > len(b) {
			if got != (part{kind: p.kind}) {
				t.Errorf("P4.1: a part that is cut: %v", got)
			}
			checkBad(t, "a part that is cut", r)
			continue
		}
		if got != p {
			t.Errorf("P4.1: a part before the cut: %v, want %v", got, p)
		}
		checkGood(t, "a part before the cut", r, ends[i] == len(b))
	}
}

func TestAnyBytes(t *testing.T) {
	rnd := rand.New(rand.NewSource(2))
	for range 50000 {
		b := make([]byte, rnd.Intn(14))
		for i := range b {
			b[i] = []byte{0, 1, 2, 3, 127, 128, 129, 255, byte(rnd.Intn(256))}[rnd.Intn(9)]
			if rnd.Intn(3) > 0 {
				b[i] |= 128
			}
		}
		v, length := modelGet(b)
		r := pack.Read(b)
		if got := r.Num(lowest, highest); got != v || r.Bad() != (length == 0) || r.End() != (length > 0 && length == len(b)) {
			t.Fatalf("P4.1: Num of % x: %d, Bad %v, want %d and %d bytes", b, got, r.Bad(), v, length)
		}
		r = pack.Read(b)
		text := r.Text(20)
		ok := length > 0 && v >= 0 && v <= int64(len(b)-length)
		if r.Bad() == ok || ok && text != string(b[length:length+int(v)]) || !ok && text != "" {
			t.Fatalf("P4.1: Text of % x: %q, Bad %v", b, text, r.Bad())
		}
	}
}

func TestReadMuch(t *testing.T) {
	// So much that a copy of the rest at each part would not end in time.
	many := 1 << 20
	r := pack.Read(bytes.Repeat([]byte{2, 2, 'x'}, many))
	for range many {
		if r.Num(1, 1) != 1 || r.Text(1) != "x" {
			t.Fatal("P4.1: one of many is not read again")
		}
	}
	checkGood(t, "much", r, true)
}

// inRoom is b with spare room behind it, and that room whole.
func inRoom(b []byte) (list, room []byte) {
	room = append(bytes.Clone(b), bytes.Repeat([]byte{77}, 200)...)
	return room[:len(b)], room
}

// fill writes over a list and its spare room.
func fill(b []byte) {
	b = b[:cap(b)]
	for i := range b {
		b[i] = 99
	}
}

func TestWritersArguments(t *testing.T) {
	for _, ahead := range []string{"", "ahead"} {
		for _, s := range []string{"", "bytes"} {
			b, roomB := inRoom([]byte(ahead))
			x, roomX := inRoom([]byte(s))
			beforeB, beforeX := bytes.Clone(roomB), bytes.Clone(roomX)
			answers := [][]byte{pack.Num(b, 5), pack.Bytes(b, x), pack.Text(b, s), pack.Num(b, lowest), pack.Bytes(b, x), pack.Text(b, s)}
			told := modelNum(int64(len(s)))
			wants := []string{"\x0a", string(told) + s, string(told) + s, string(modelNum(lowest)), string(told) + s, string(told) + s}
			for i, got := range answers {
				if string(got) != ahead+wants[i] {
					t.Errorf("R4: answer %d is changed by another one: % x", i, got)
				}
				fill(got)
			}
			if !bytes.Equal(roomB, beforeB) || !bytes.Equal(roomX, beforeX) {
				t.Errorf("R4: a writer changed or shares what was handed in")
			}
		}
	}
}

func TestBytesOneListTwice(t *testing.T) {
	b, room := inRoom([]byte("both"))
	before := bytes.Clone(room)
	if got := pack.Bytes(b, b); string(got) != "both\x08both" {
		t.Errorf("P4.1: Bytes(b, b): %q", got)
	}
	if got := pack.Bytes(b[:2], room[2:6]); string(got) != "bo\x08th"+string(before[4:6]) {
		t.Errorf("P4.1: Bytes of what is behind b: %q", got)
	}
	if !bytes.Equal(room, before) {
		t.Errorf("R4: Bytes changed what was handed in")
	}
}

func TestReadKeepsNothing(t *testing.T) {
	b, room := inRoom(pack.Text(pack.Num(pack.Text(nil, "one"), 300), "two"))
	before := bytes.Clone(room)
	r := pack.Read(b)
	x := r.Bytes(9)
	if !bytes.Equal(room, before) {
		t.Errorf("R4: Read or Bytes changed what was handed in")
	}
	fill(room)
	if string(x) != "one" || r.Num(300, 300) != 300 || string(r.Bytes(3)) != "two" || !r.End() {
		t.Errorf("R4: Read keeps what was handed in")
	}
}

func TestReadArguments(t *testing.T) {
	for _, wrong := range []string{"", "\x80", "\x09ab"} {
		b, room := inRoom(append(pack.Text(nil, "one"), wrong...))
		before := bytes.Clone(room)
		r := pack.Read(b)
		x := r.Bytes(3)
		fill(x)
		fill(r.Bytes(3))
		checkBad(t, "what is wrong", r)
		if !bytes.Equal(room, before) {
			t.Errorf("R4: a reader changed or shares what was handed in")
		}
	}
}

func TestReaderSharesNothing(t *testing.T) {
	b := pack.Text(pack.Num(pack.Text(pack.Text(nil, ""), "one"), 7), "two")
	r := pack.Read(b)
	none := r.Bytes(0)
	fill(none)
	one := r.Bytes(3)
	kept := bytes.Clone(one)
	fill(one)
	if string(kept) != "one" || r.Num(7, 7) != 7 {
		t.Errorf("R4: an answer shares memory with the reader")
	}
	two := r.Bytes(3)
	fill(none)
	fill(one)
	if string(two) != "two" || !r.End() {
		t.Errorf("R4: two answers share memory: %q", two)
	}
}

func TestTheSameAgain(t *testing.T) {
	for range 3 {
		b := pack.Text(pack.Num([]byte("x"), -3), "ab")
		if string(b) != "x\x05\x04ab" {
			t.Fatalf("R5: the same call answers something else: %q", b)
		}
		r := pack.Read(b[1:])
		if r.Num(-3, -3) != -3 || r.Text(2) != "ab" || !r.End() {
			t.Fatalf("R5: the same bytes are read as something else")
		}
		pack.Read([]byte{128}).Num(0, 9)
	}
}
