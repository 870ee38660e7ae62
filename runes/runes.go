// Package runes is layer 1: texts as runes, see shared/doc/01-runes.md.
package runes

import (
	"unicode/utf8"

	"marquetry/api"
)

// Decode tells a text's runes.
func Decode(s string) ([]rune, api.Errno) {
	if !utf8.ValidString(s) {
		return nil, api.ErrText
	}
	l := make([]rune, 0, utf8.RuneCountInString(s))
	for _, r := range s {
		l = append(l, r)
	}
	return l, api.OK
}

// Count tells how many runes a text has.
func Count(s string) int {
	if !utf8.ValidString(s) {
		return 0
	}
	return utf8.RuneCountInString(s)
}

// Class tells what kind of rune it is.
func Class(r rune) int {
	switch {
	case r == ' ', r == '\t', r == '\n':
		return api.RnBlank
	case '0' <= r && r <= '9':
		return api.RnDigit
	case 'A' <= r && r <= 'Z', 'a' <= r && r <= 'z', r == '_':
		return api.RnLetter
	case r == utf8.RuneError:
		return api.RnOther
	case r >= utf8.RuneSelf && utf8.ValidRune(r):
		return api.RnLetter
	}
	return api.RnOther
}

// Check tells whether a text may be read, or where it may not.
func Check(s string) (at int, e api.Errno) {
	if len(s) > api.MaxSource {
		return 0, api.ErrLong
	}
	for i, r := range s {
		if !readable(r) {
			return i, api.ErrText
		}
	}
	return 0, api.OK
}

// readable is asked of runes as a range tells them: it tells U+FFFD for wrong bytes too, so that one case refuses both.
func readable(r rune) bool {
	switch {
	case r == utf8.RuneError, r == 0x7f:
		return false
	case r < ' ':
		return Class(r) == api.RnBlank
	}
	return true
}

// Place tells the line and the column of the rune at the byte at.
func Place(s string, at int) (line, col int, e api.Errno) {
	if at < 0 || at > len(s) {
		return 0, 0, api.ErrArg
	}
	if !utf8.ValidString(s) {
		return 0, 0, api.ErrText
	}
	line, col = 1, 1
	for i, r := range s {
		if at < i+utf8.RuneLen(r) {
			break
		}
		line, col = behind(line, col, r)
	}
	return line, col, api.OK
}

// behind tells the place that follows the rune r at a line and a column.
func behind(line, col int, r rune) (int, int) {
	if r == '\n' {
		return line + 1, 1
	}
	return line, col + 1
}

// Name tells whether a text is a name.
func Name(s string) bool {
	if s == "" || len(s) > api.MaxName {
		return false
	}
	for i, r := range s {
		if !mayStand(r, i == 0) {
			return false
		}
	}
	return true
}

// mayStand tells whether a rune may stand in a name, as its first one or further on.
func mayStand(r rune, first bool) bool {
	switch Class(r) {
	case api.RnLetter:
		return true
	case api.RnDigit:
		return !first
	}
	return r == '\'' && !first
}

// Cut tells a text's first n runes.
func Cut(s string, n int) string {
	if !utf8.ValidString(s) {
		return ""
	}
	left := n
	for i := range s {
		if left <= 0 {
			return s[:i]
		}
		left--
	}
	return s
}
