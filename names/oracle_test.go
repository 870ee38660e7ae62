package names_test

import (
	"regexp"
	"slices"
	"strings"

	"marquetry/api"
)

// oracle_test.go tells names by a pattern and by the language's list of words, and long names by lists of pieces: it shares nothing with the package.

const listOfWords = "val type datatype structure signature functor open include struct end sig where sharing fn let in if then else case fold of to int bool unit true false mu"

var (
	words     = strings.Fields(listOfWords)
	nameSigns = regexp.MustCompile(`^[A-Za-z_\x{80}-\x{FFFC}\x{FFFE}-\x{10FFFF}][A-Za-z_\x{80}-\x{FFFC}\x{FFFE}-\x{10FFFF}0-9']*$`)
)

func isName(s string) bool {
	return len(s) <= 32 && nameSigns.MatchString(s) && !slices.Contains(words, s)
}

// namesOf tells a long name's names: none, if it is no long name.
func namesOf(s string) []string {
	l := strings.Split(s, ".")
	for _, x := range l {
		if len(s) > 128 || !isName(x) {
			return nil
		}
	}
	return l
}

// begins tells whether a list of names begins with another that has some.
func begins(l, first []string) bool {
	return len(first) > 0 && len(l) >= len(first) && slices.Equal(l[:len(first)], first)
}

// moved tells what Move should answer.
func moved(s, from, to string) (string, api.Errno) {
	l, old, other := namesOf(s), namesOf(from), namesOf(to)
	if !begins(l, old) || other == nil {
		return "", api.ErrArg
	}
	all := strings.Join(slices.Concat(other, l[len(old):]), ".")
	if len(all) > 128 {
		return "", api.ErrLong
	}
	return all, api.OK
}

// eachRow hands on each row of up to n of the pieces.
func eachRow(n int, pieces []string, f func(s string)) {
	var grow func(s string, left int)
	grow = func(s string, left int) {
		f(s)
		if left == 0 {
			return
		}
		for _, x := range pieces {
			grow(s+x, left-1)
		}
	}
	grow("", n)
}

// piece is a name of n bytes.
func piece(n int) string { return strings.Repeat("a", n) }

// longest are long names that are just as long as may be.
func longest() []string {
	p := piece(31) + "."
	return []string{p + p + p + piece(32), strings.Repeat("a.", 63) + "aa", strings.Repeat("\u00e9.", 42) + "aa", strings.Repeat("ab.", 42) + "ab", "\U0001f600." + strings.Repeat("\u4e16.", 30) + "abc"}
}

// rightNames are names, with those at the limit.
func rightNames() []string {
	return []string{"a", "Z", "_", "a'", "a1", "_1'", "A_b'c2", "\u00e9", "\u4e16\u754c", "\U0001f600", "\u0080", "\ufffc", "\ufffe", "\U0010ffff", "a\u0301", "e\u0663", "vals", "Val", "val'", "val1", "val_", "ends", "o", "f", "mu_",
		piece(31), piece(32), strings.Repeat("\u00e9", 16), strings.Repeat("\U0001f600", 8), strings.Repeat("\u4e16", 10) + "aa", "a" + strings.Repeat("'", 31), "a" + strings.Repeat("9", 31)}
}

// wrongNames are texts that are no names, and none with a dot in it.
func wrongNames() []string {
	return append([]string{"", "1", "1a", "'", "'a", "~1", "=", "#1", "*", "a b", " a", "a ", "a\n", "\ta", "a-b", "a;", "a$", "a\x00", "\x00", "a\x7f", "(*a*)", "a(**)",
		"\xff", "a\xff", "\xffa", "\x80", "a\xc3", "\xc3", "\xed\xa0\x80", "\xc1\xa1", "\xf4\x90\x80\x80", "\ufffd", "a\ufffd",
		piece(33), strings.Repeat("\u00e9", 16) + "a", strings.Repeat("\U0001f600", 8) + "'", "a" + strings.Repeat("9", 32), strings.Repeat("a", 1<<16)}, words...)
}

// wrongLongs are texts with dots that are no long names.
func wrongLongs() []string {
	l := []string{".", "..", ".a", "a.", ".a.b", "a.b.", "a..b", "a...b", "a.b..c", "..a", "a..", "a .b", "a. b", "a.b ", " a.b", "a.\nb", "a\u3002b.", "a.b\xff", "a\xff.b", "\xff.a"}
	for _, x := range longest() {
		l = append(l, x+"a", x+"\u00e9", x+".", "."+x, x+".a", "a."+x, "a"+x+"b")
	}
	for _, x := range wrongNames() {
		l = append(l, x+".a", "a."+x, "a."+x+".b", x+"."+x)
	}
	return append(l, strings.Repeat("a.", 1<<15), strings.Repeat("a.", 64)+"a", strings.Repeat(".", 1<<16))
}

// rightLongs are long names of more than one piece, with those at the limit.
func rightLongs() []string {
	l := append(longest(), "a.b", "a.b.c", "A.b'.c1", "a.a.a", "_._", "\u00e9.\u4e16.\U0001f600", "vals.ends", "a.val'", "Val.x", piece(32)+"."+piece(32), strings.Repeat("a.", 63)+"a")
	for _, x := range rightNames() {
		l = append(l, x+".a", "a."+x, "a."+x+".b", x+"."+x)
	}
	return l
}
