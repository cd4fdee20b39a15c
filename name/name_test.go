package name_test

import (
	"math"
	"slices"
	"strings"
	"testing"
	"unicode"
	"unicode/utf8"
	"unsafe"

	"rostrum/api"
	"rostrum/name"
)

// bad is what a byte that is no UTF-8 is read as.
const bad = 65533

func TestGood(t *testing.T) {
	full := strings.Repeat("a", api.MaxName)
	wide := strings.Repeat("日", api.MaxName)
	for _, c := range []struct {
		s    string
		want bool
	}{
		{"a", true}, {"ann", true}, {"Ann", true}, {"a2", true}, {"a-", true}, {"a--2", true},
		{"é", true}, {"日本", true}, {"a٣", true}, {"ǅ", true}, {"ª", true}, {"𝒜", true},
		{"", false}, {"2", false}, {"2a", false}, {"-", false}, {"-a", false}, {"٣", false}, {"٣a", false},
		{"a_b", false}, {"a b", false}, {" a", false}, {"a ", false}, {"a.b", false}, {"a\n", false}, {"a\x00", false},
		{"aⅧ", false}, {"a²", false}, {"a\u0301", false}, {"a–b", false}, {"a−b", false}, {"€", false}, {"a€", false},
		{full, true}, {full + "a", false}, {full[1:] + "-", true}, {full[1:] + "9", true}, {full[1:] + "_", false},
		{full + "-", false}, {full + "\xff", false},
		{wide, true}, {wide + "日", false}, {wide + "a", false},
		{strings.Repeat("a", 1000), false},
		{"\xff", false}, {"a\xff", false}, {"\xffa", false}, {"a\xffb", false}, {"a\xe2\x82", false}, {"\xc3", false},
		{"a\xc0\x80", false}, {"a\xed\xa0\x80", false}, {"a\xf4\x90\x80\x80", false},
		{"\ufffd", false}, {"a\ufffd", false}, {"a\ufffdb\xff", false},
	} {
		if got := name.Good(c.s); got != c.want {
			t.Errorf("P1.1: Good(%q): %v", c.s, got)
		}
	}
}

func TestGoodOfEachRune(t *testing.T) {
	for r := rune(0); r <= unicode.MaxRune; r++ {
		if !utf8.ValidRune(r) {
			continue
		}
		letter, digit := unicode.IsLetter(r), unicode.IsDigit(r)
		if got := name.Good(string(r)); got != letter {
			t.Fatalf("P1.1: Good of rune %d alone: %v", r, got)
		}
		if got := name.Good("a" + string(r)); got != (letter || digit || r == '-') {
			t.Fatalf("P1.1: Good of rune %d behind a letter: %v", r, got)
		}
	}
}

func TestLen(t *testing.T) {
	for _, c := range []struct {
		s    string
		want int
	}{
		{"", 0}, {"a", 1}, {"aé", 2}, {"é", 1}, {"€", 1}, {"𝒜", 1}, {"a\u0301", 2}, {"a\x00b", 3},
		{strings.Repeat("é", api.MaxName), api.MaxName}, {strings.Repeat("é", api.MaxName+1), api.MaxName + 1},
		{"\xff", 1}, {"\xff\xfe", 2}, {"a\xffb", 3}, {"\xe2\x82", 2}, {"\xe2\x82a", 3}, {"\xf0\x9d\x92", 3},
		{"\xc0\x80", 2}, {"\xed\xa0\x80", 3}, {"\xf4\x90\x80\x80", 4}, {"\ufffd", 1}, {"\ufffd\xff", 2}, {"\xff\ufffd", 2},
	} {
		if got := name.Len(c.s); got != c.want {
			t.Errorf("P1.1: Len(%q): %d", c.s, got)
		}
	}
}

func TestFold(t *testing.T) {
	for _, c := range []struct{ s, want string }{
		{"", ""}, {"Ab", "ab"}, {"ab", "ab"}, {"A-2_Z", "a-2_z"}, {"AÉΣ", "aéσ"}, {"ς", "ς"}, {"ß", "ß"}, {"ẞ", "ß"},
		{"İ", "i"}, {"\u212a", "k"}, {"Ⱥ", "ⱥ"}, {"ǅ", "ǆ"}, {"𐐀", "𐐨"}, {"日本", "日本"}, {"Ⅷ", "ⅷ"}, {"A\x00B", "a\x00b"},
		{"\xff", "\ufffd"}, {"\xff\xfe", "\ufffd\ufffd"}, {"A\xffB", "a\ufffdb"}, {"A\xe2\x82B", "a\ufffd\ufffdb"},
		{"\ufffd", "\ufffd"}, {"\ufffd\xffA", "\ufffd\ufffda"},
	} {
		if got := name.Fold(c.s); got != c.want {
			t.Errorf("P1.1: Fold(%q): %q", c.s, got)
		}
	}
}

func TestFoldOfEachRune(t *testing.T) {
	for r := rune(0); r <= unicode.MaxRune; r++ {
		if !utf8.ValidRune(r) {
			continue
		}
		if got := name.Fold(string(r)); got != string(unicode.ToLower(r)) {
			t.Fatalf("P1.1: Fold of rune %d: %q", r, got)
		}
	}
}

func TestCmp(t *testing.T) {
	for _, c := range []struct {
		a, b string
		want int
	}{
		{"", "", 0}, {"a", "a", 0}, {"aé", "aé", 0}, {"", "a", -1}, {"", "\x00", -1}, {"", "\xff", -1},
		{"a", "ab", -1}, {"é", "éa", -1}, {"a", "a\x00", -1}, {"a", "b", -1}, {"ab", "b", -1}, {"az", "b", -1},
		{"A", "a", -1}, {"Z", "a", -1}, {"a", "é", -1}, {"z", "é", -1}, {"é", "€", -1}, {"日", "本", -1}, {"abc", "abd", -1},
		{"\xff", "\xff", 0}, {"\xff", "\xfe", 0}, {"\xff", "\ufffd", 0}, {"a\xffb", "a\ufffdb", 0}, {"\xe2\x82", "\ufffd\xff", 0},
		{"\xff", "\xfe\xfe", -1}, {"\ufffd", "\xff\xff", -1}, {"\x80", "\ufffda", -1}, {"\xffa", "\ufffdb", -1},
		{"z", "\xff", -1}, {"z", "\x80", -1}, {"\ufffc", "\x80", -1}, {"\xff", "\ufffe", -1}, {"\xff", "\U00010000", -1},
		{"\ue000", "\U00010000", -1},
	} {
		if got := name.Cmp(c.a, c.b); got != c.want {
			t.Errorf("P1.1: Cmp(%q, %q): %d", c.a, c.b, got)
		}
		if got := name.Cmp(c.b, c.a); got != -c.want {
			t.Errorf("P1.1: Cmp(%q, %q): %d", c.b, c.a, got)
		}
	}
}

func TestSplit(t *testing.T) {
	for _, c := range []struct {
		s    string
		at   rune
		want []string
	}{
		{"", ',', []string{""}}, {"a", ',', []string{"a"}}, {"aé", ',', []string{"aé"}},
		{",", ',', []string{"", ""}}, {",,", ',', []string{"", "", ""}}, {"a,b", ',', []string{"a", "b"}},
		{",a", ',', []string{"", "a"}}, {"a,", ',', []string{"a", ""}}, {"a,,b", ',', []string{"a", "", "b"}},
		{",,a,,", ',', []string{"", "", "a", "", ""}}, {"a b\nc", '\n', []string{"a b", "c"}}, {"a\x00b", 0, []string{"a", "b"}},
		{"aébé", 'é', []string{"a", "b", ""}}, {"éaéé", 'é', []string{"", "a", "", ""}}, {"é€", '€', []string{"é", ""}},
		{"𝒜a𝒜", '𝒜', []string{"", "a", ""}}, {"é", 0xc3, []string{"é"}}, {"Ã", 0xc3, []string{"", ""}}, {"aA", 'A', []string{"a", ""}},
		{"a\xffb", 'b', []string{"a\xff", ""}}, {"\xff,\xfe", ',', []string{"\xff", "\xfe"}}, {"\xe2\x82,\xac", ',', []string{"\xe2\x82", "\xac"}},
		{"a\ufffd,", ',', []string{"a\ufffd", ""}},
		{"\xff", bad, []string{"", ""}}, {"\ufffd", bad, []string{"", ""}}, {"a\xffb", bad, []string{"a", "b"}},
		{"a\ufffdb\xff", bad, []string{"a", "b", ""}}, {"\xff\ufffda", bad, []string{"", "", "a"}}, {"\ufffd\xffa", bad, []string{"", "", "a"}},
		{"\xe2\x82", bad, []string{"", "", ""}}, {"ab", bad, []string{"ab"}}, {"\xff", 0xff, []string{"\xff"}},
		{"ab", -1, []string{"ab"}}, {"\xff", -1, []string{"\xff"}}, {"\xff", math.MinInt32, []string{"\xff"}},
		{"\xff", math.MaxInt32, []string{"\xff"}}, {"\xed\xa0\x80", 0xd800, []string{"\xed\xa0\x80"}}, {"", -1, []string{""}}, {"", bad, []string{""}},
	} {
		if got := name.Split(c.s, c.at); !slices.Equal(got, c.want) {
			t.Errorf("P1.1: Split(%q, %d): %q", c.s, c.at, got)
		}
	}
}

func TestCut(t *testing.T) {
	for _, c := range []struct {
		s    string
		n    int
		want string
	}{
		{"aéb", 1, "a"}, {"aéb", 2, "aé"}, {"aéb", 3, "aéb"}, {"aéb", 4, "aéb"}, {"aéb", math.MaxInt, "aéb"},
		{"aéb", 0, ""}, {"aéb", -1, ""}, {"aéb", math.MinInt, ""},
		{"", 0, ""}, {"", 3, ""}, {"", -3, ""}, {"", math.MinInt, ""}, {"€a", 1, "€"}, {"𝒜𝒜", 1, "𝒜"}, {"a\u0301", 1, "a"},
		{"\xff\xfea", 1, "\xff"}, {"\xff\xfea", 2, "\xff\xfe"}, {"\xff", 1, "\xff"}, {"\xff", 0, ""}, {"\xff", 2, "\xff"},
		{"a\xffb", 2, "a\xff"}, {"\xe2\x82a", 1, "\xe2"}, {"\xe2\x82a", 2, "\xe2\x82"},
		{"\ufffd\xffa", 1, "\ufffd"}, {"\ufffd\xffa", 2, "\ufffd\xff"}, {"\xff\ufffda", 2, "\xff\ufffd"},
	} {
		if got := name.Cut(c.s, c.n); got != c.want {
			t.Errorf("P1.1: Cut(%q, %d): %q", c.s, c.n, got)
		}
	}
}

// piece is a rune with the bytes that it stands for.
type piece struct {
	r rune
	b string
}

// pieces takes a text apart without ranging over it, to hold the calls against.
func pieces(s string) []piece {
	var l []piece
	for s != "" {
		r, size := utf8.DecodeRuneInString(s)
		l = append(l, piece{r, s[:size]})
		s = s[size:]
	}
	return l
}

func runesOf(s string) []rune {
	var l []rune
	for _, p := range pieces(s) {
		l = append(l, p.r)
	}
	return l
}

func wantGood(s string) bool {
	l := runesOf(s)
	for _, r := range l {
		if !unicode.In(r, unicode.L, unicode.Nd) && r != '-' {
			return false
		}
	}
	return len(l) >= 1 && len(l) <= api.MaxName && unicode.Is(unicode.L, l[0])
}

func wantFold(s string) string {
	var b []byte
	for _, r := range runesOf(s) {
		b = utf8.AppendRune(b, unicode.To(unicode.LowerCase, r))
	}
	return string(b)
}

func wantSplit(s string, at rune) []string {
	parts := []string{""}
	for _, p := range pieces(s) {
		if p.r == at {
			parts = append(parts, "")
		} else {
			parts[len(parts)-1] += p.b
		}
	}
	return parts
}

func wantCut(s string, n int) string {
	out := ""
	for i, p := range pieces(s) {
		if i < n {
			out += p.b
		}
	}
	return out
}

// texts are all that up to n of the odd pieces make, broken runes among them.
func texts(n int) []string {
	odd := []string{"a", "Z", "7", "-", "_", "é", "\xe2", "\x82", "\xac", "\xff", "\ufffd", "𝒜"}
	all := []string{""}
	from := 0
	for range n {
		to := len(all)
		for _, s := range all[from:to] {
			for _, o := range odd {
				all = append(all, s+o)
			}
		}
		from = to
	}
	return all
}

func TestManyTexts(t *testing.T) {
	for _, s := range texts(4) {
		count := len(pieces(s))
		if got := name.Good(s); got != wantGood(s) {
			t.Fatalf("P1.1: Good(%q): %v", s, got)
		}
		if got := name.Len(s); got != count {
			t.Fatalf("P1.1: Len(%q): %d", s, got)
		}
		if got := name.Fold(s); got != wantFold(s) {
			t.Fatalf("P1.1: Fold(%q): %q", s, got)
		}
		for _, at := range []rune{'a', '-', 'é', '€', bad, 0xff, -1} {
			if got := name.Split(s, at); !slices.Equal(got, wantSplit(s, at)) {
				t.Fatalf("P1.1: Split(%q, %d): %q", s, at, got)
			}
		}
		for n := -1; n <= count+1; n++ {
			if got := name.Cut(s, n); got != wantCut(s, n) {
				t.Fatalf("P1.1: Cut(%q, %d): %q", s, n, got)
			}
		}
	}
}

func TestManyPairs(t *testing.T) {
	all := texts(2)
	for _, a := range all {
		for _, b := range all {
			if got, want := name.Cmp(a, b), slices.Compare(runesOf(a), runesOf(b)); got != want {
				t.Fatalf("P1.1: Cmp(%q, %q): %d, not %d", a, b, got, want)
			}
		}
	}
}

func TestLongTexts(t *testing.T) {
	const n = 1 << 20
	long := strings.Repeat("é", n)
	if name.Good(long) || name.Len(long) != n || name.Fold(strings.Repeat("É", n)) != long {
		t.Error("P1.1: a long text")
	}
	if name.Cmp(long, long) != 0 || name.Cmp(long, long+"a") != -1 || name.Cmp(long+"a", long) != 1 {
		t.Error("P1.1: Cmp of long texts")
	}
	if len(name.Split(long, 'é')) != n+1 || len(name.Cut(long, n-1)) != len(long)-2 {
		t.Error("P1.1: parts of a long text")
	}
}

// within tells whether part lies in the memory of whole.
func within(part, whole string) bool {
	p, w := uintptr(unsafe.Pointer(unsafe.StringData(part))), uintptr(unsafe.Pointer(unsafe.StringData(whole)))
	return part != "" && p >= w && p < w+uintptr(len(whole))
}

func TestNewMemory(t *testing.T) {
	s := strings.Repeat("ab,c", 3)
	answers := []string{name.Fold(s), name.Cut(s, 5), name.Cut(s, 100)}
	answers = append(answers, name.Split(s, ',')...)
	answers = append(answers, name.Split(s, ';')...)
	for i, a := range answers {
		if within(a, s) {
			t.Errorf("R4: answer %d lies in its argument", i)
		}
	}
}

func TestSplitIsNewEachTime(t *testing.T) {
	first := name.Split("a,b,c", ',')
	second := name.Split("a,b,c", ',')
	for i := range first[:cap(first)] {
		first[:cap(first)][i] = "x"
	}
	if want := []string{"a", "b", "c"}; !slices.Equal(second, want) || !slices.Equal(name.Split("a,b,c", ','), want) {
		t.Errorf("R4, R5: Split told %q behind a change of another answer", second)
	}
}
