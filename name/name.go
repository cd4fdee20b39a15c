// Package name: names, letter by letter: see DOC.md, chapter 1.
//
// Ranging over a string gives each byte that is no UTF-8 as the rune 65533,
// one byte wide, just as the chapter reads such bytes.
package name

import (
	"cmp"
	"strings"
	"unicode"

	"rostrum/api"
)

// Good tells whether a name may be.
func Good(s string) bool {
	count := 0
	for _, r := range s {
		if count == api.MaxName || !mayStand(r, count == 0) {
			return false
		}
		count++
	}
	return count > 0
}

// mayStand needs no case for bytes that are no UTF-8: they come as 65533,
// which is neither a letter nor a digit.
func mayStand(r rune, first bool) bool {
	if first {
		return unicode.IsLetter(r)
	}
	return r == '-' || unicode.IsLetter(r) || unicode.IsDigit(r)
}

// Len counts runes.
func Len(s string) int {
	count := 0
	for range s {
		count++
	}
	return count
}

// Fold makes letters small.
func Fold(s string) string {
	var small strings.Builder
	for _, r := range s {
		small.WriteRune(unicode.ToLower(r))
	}
	return small.String()
}

// Cmp compares two.
func Cmp(a, b string) int {
	for _, r := range a {
		if b == "" {
			return 1
		}
		q, rest := head(b)
		if r != q {
			return cmp.Compare(r, q)
		}
		b = rest
	}
	if b != "" {
		return -1
	}
	return 0
}

// head parts a string behind its first rune. That rune's width shows only
// where the next one begins, since a 65533 may be one byte or three.
func head(s string) (r rune, rest string) {
	for i, next := range s {
		if i > 0 {
			return r, s[i:]
		}
		r = next
	}
	return r, ""
}

// Split parts a text.
func Split(s string, at rune) []string {
	var parts []string
	from := 0
	behind := false // the rune at has just gone by: the next rune's place tells its width
	for i, r := range s {
		if behind {
			from = i
		}
		behind = r == at
		if behind {
			parts = append(parts, strings.Clone(s[from:i]))
		}
	}
	if behind {
		from = len(s)
	}
	// Cloned, like every part: an answer shares no memory with its argument.
	return append(parts, strings.Clone(s[from:]))
}

// Cut tells its first runes.
func Cut(s string, n int) string {
	for i := range s {
		if n < 1 {
			return strings.Clone(s[:i])
		}
		n--
	}
	return strings.Clone(s)
}
