package runes_test

import (
	"math"
	"slices"
	"strings"
	"testing"

	"marquetry/api"
	"marquetry/runes"
)

// texts are right ones of all lengths of runes, with the edges of each.
func texts() []string {
	return []string{
		"", "a", "a b", "\n", "\n\n", "a\n\u00e9b", "\u00e9", "\u4e16\u754c", "\U0001f600", "a\u00e9\u4e16\U0001f600z",
		"\x00", "\x7f\u0080", "\u07ff\u0800", "\ud7ff\ue000", "\ufffc\ufffd\ufffe\uffff", "\U00010000\U0010ffff", "e\u0301", "\ufeffa", "\r\n\t",
	}
}

// P1.1.

func TestDecodeTellsRunes(t *testing.T) {
	want := []rune{'a', 0xe9, 0x4e16, 0x1f600, 0xfffd, 0, '\n'}
	s := "a\u00e9\u4e16\U0001f600\ufffd\x00\n"
	if l, e := runes.Decode(s); e != api.OK || !slices.Equal(l, want) {
		t.Error(l, int(e))
	}
	if n := runes.Count(s); n != 7 {
		t.Error(n)
	}
	if l, e := runes.Decode(""); e != api.OK || len(l) != 0 || runes.Count("") != 0 {
		t.Error(l, int(e))
	}
}

func TestDecodeRefusesWrongBytes(t *testing.T) {
	for s := range wrongTexts() {
		for _, x := range []string{s, "a" + s, s + "a", "\u00e9\n" + s + "\u4e16"} {
			if l, e := runes.Decode(x); e != api.ErrText || len(l) != 0 {
				t.Errorf("Decode(%q) = %v, %d", x, l, e)
			}
			if n := runes.Count(x); n != 0 {
				t.Errorf("Count(%q) = %d", x, n)
			}
		}
	}
}

func TestDecodeOfAllRowsOfBytes(t *testing.T) {
	ask := func(s string) {
		want, _, wrong := decoded(s)
		n, wantE := len(want), api.OK
		if wrong >= 0 {
			want, n, wantE = nil, 0, api.ErrText
		}
		if l, e := runes.Decode(s); e != wantE || !slices.Equal(l, want) {
			t.Fatalf("Decode(%q) = %v, %d", s, l, e)
		}
		if c := runes.Count(s); c != n {
			t.Fatalf("Count(%q) = %d", s, c)
		}
	}
	for a := range 256 {
		ask(string([]byte{byte(a)}))
		for b := range 256 {
			ask(string([]byte{byte(a), byte(b)}))
		}
	}
	eachEdge(4, ask)
}

// Only Check is bound by MaxSource.
func TestDecodeOfLongTexts(t *testing.T) {
	s := strings.Repeat("\u00e9", api.MaxSource)
	if l, e := runes.Decode(s); e != api.OK || len(l) != api.MaxSource || l[api.MaxSource-1] != 0xe9 || runes.Count(s) != api.MaxSource {
		t.Error(len(l), int(e))
	}
}

func TestDecodeHandsOutNewLists(t *testing.T) {
	l, _ := runes.Decode("abc")
	for i := range l {
		l[i] = 'z'
	}
	if again, _ := runes.Decode("abc"); !slices.Equal(again, []rune("abc")) {
		t.Error(again)
	}
}

// P1.2.

func TestClassOfEachRune(t *testing.T) {
	letters := []rune("ABCDEFGHIJKLMNOPQRSTUVWXYZabcdefghijklmnopqrstuvwxyz_")
	for r := rune(-300); r < 0x110200; r++ {
		want := 0
		switch {
		case slices.Contains([]rune{32, 9, 10}, r):
			want = 3
		case slices.Contains([]rune("0123456789"), r):
			want = 2
		case r < 128 && slices.Contains(letters, r), r >= 0x80 && r < 0xd800, r >= 0xe000 && r < 0xfffd, r >= 0xfffe && r <= 0x10ffff:
			want = 1
		}
		if c := runes.Class(r); c != want {
			t.Fatalf("Class(%#x) = %d", r, c)
		}
	}
}

func TestClassOfNumbersOfAnySize(t *testing.T) {
	for _, r := range []rune{math.MinInt32, math.MinInt32 + 'a', -1, -'a', -0x80, 0xd800, 0xdbff, 0xdc00, 0xdfff, 0xfffd, 0x110000, 0x200041, 0x1000020, math.MaxInt32} {
		if c := runes.Class(r); c != api.RnOther {
			t.Errorf("Class(%#x) = %d", r, c)
		}
	}
}

func TestCheckTakesTexts(t *testing.T) {
	for _, s := range []string{"", "a", " \t\n", "val x = 1", "~!@#$%^&*()'", "\u0080\u009f\u00a0\u00e9", "\u4e16\ue000\ufffc\ufffe\uffff", "\U00010000\U0010ffff", "\ud7ff"} {
		if at, e := runes.Check(s); at != 0 || e != api.OK {
			t.Errorf("Check(%q) = %d, %d", s, at, e)
		}
	}
}

func TestCheckTellsTheFirstWrongByte(t *testing.T) {
	wrong := wrongTexts()
	wrong["\ufffd"], wrong["\u4e16\ufffd"], wrong["\x7f"] = 0, 3, 0
	for b := range rune(' ') {
		if b != '\t' && b != '\n' {
			wrong[string(b)] = 0
		}
	}
	for s, at := range wrong {
		for _, ahead := range []string{"", "a", "ab \t\n", "\u00e9\u4e16"} {
			for _, behind := range []string{"", "\x01", "\xff", "b\ufffd"} {
				x := ahead + s + behind
				if got, e := runes.Check(x); got != len(ahead)+at || e != api.ErrText {
					t.Errorf("Check(%q) = %d, %d", x, got, e)
				}
			}
		}
	}
}

func TestCheckOfAllRowsOfBytes(t *testing.T) {
	eachEdge(4, func(s string) {
		l, places, at := decoded(s)
		for i, r := range l {
			if r == 0xfffd || r == 0x7f || r < 32 && r != 9 && r != 10 {
				at = places[i]
				break
			}
		}
		wantE := api.ErrText
		if at < 0 {
			at, wantE = 0, api.OK
		}
		if got, e := runes.Check(s); got != at || e != wantE {
			t.Fatalf("Check(%q) = %d, %d", s, got, e)
		}
	})
}

func TestCheckOfLongTexts(t *testing.T) {
	most := strings.Repeat("a", api.MaxSource)
	two := strings.Repeat("\u00e9", api.MaxSource/2)
	for _, s := range []string{most, two} {
		if at, e := runes.Check(s); at != 0 || e != api.OK {
			t.Error(at, int(e))
		}
	}
	for _, s := range []string{most + "a", two + "a", most[1:] + "\u00e9", "\xff" + most, "a\x01" + most, most + "\xff"} {
		if at, e := runes.Check(s); at != 0 || e != api.ErrLong {
			t.Error(at, int(e))
		}
	}
	if at, e := runes.Check(most[1:] + "\x01"); at != api.MaxSource-1 || e != api.ErrText {
		t.Error(at, int(e))
	}
	if at, e := runes.Check(two[2:] + "\xc3\xa9"[:1]); at != api.MaxSource-2 || e != api.ErrText {
		t.Error(at, int(e))
	}
}

// P1.3.

func TestPlaceCountsRunes(t *testing.T) {
	for _, x := range [][3]int{{0, 1, 1}, {1, 1, 2}, {2, 2, 1}, {3, 2, 1}, {4, 2, 2}, {5, 2, 3}} {
		if line, col, e := runes.Place("a\n\u00e9b", x[0]); line != x[1] || col != x[2] || e != api.OK {
			t.Error(x, line, col, int(e))
		}
	}
	for _, x := range [][3]int{{0, 1, 1}, {1, 2, 1}, {2, 3, 1}} {
		if line, col, e := runes.Place("\n\n", x[0]); line != x[1] || col != x[2] || e != api.OK {
			t.Error(x, line, col, int(e))
		}
	}
	if line, col, e := runes.Place("", 0); line != 1 || col != 1 || e != api.OK {
		t.Error(line, col, int(e))
	}
}

func TestPlaceOfEachByte(t *testing.T) {
	for _, s := range texts() {
		l, places, _ := decoded(s)
		places = append(places, len(s))
		for at := range len(s) + 1 {
			i := len(places) - 1
			for places[i] > at {
				i--
			}
			line, col := 1, 1
			for _, r := range l[:i] {
				col++
				if r == 10 {
					line, col = line+1, 1
				}
			}
			if gotLine, gotCol, e := runes.Place(s, at); gotLine != line || gotCol != col || e != api.OK {
				t.Errorf("Place(%q, %d) = %d, %d, %d", s, at, gotLine, gotCol, e)
			}
		}
	}
}

// Neither MaxSource nor what Check refuses is a bound for Place.
func TestPlaceOfTextsThatCheckRefuses(t *testing.T) {
	if line, col, e := runes.Place("\r\x01\x7f\ufffda", 6); line != 1 || col != 5 || e != api.OK {
		t.Error(line, col, int(e))
	}
	if line, col, e := runes.Place(strings.Repeat("a\n", api.MaxSource), 2*api.MaxSource); line != api.MaxSource+1 || col != 1 || e != api.OK {
		t.Error(line, col, int(e))
	}
}

func TestPlaceRefuses(t *testing.T) {
	for _, s := range []string{"", "a", "a\n\u00e9b", "a\xff"} {
		for _, at := range []int{-1, math.MinInt, -len(s) - 1, len(s) + 1, math.MaxInt} {
			if line, col, e := runes.Place(s, at); line != 0 || col != 0 || e != api.ErrArg {
				t.Errorf("Place(%q, %d) = %d, %d, %d", s, at, line, col, e)
			}
		}
	}
	for s := range wrongTexts() {
		for at := range len("a\n"+s) + 1 {
			if line, col, e := runes.Place("a\n"+s, at); line != 0 || col != 0 || e != api.ErrText {
				t.Errorf("Place(%q, %d) = %d, %d, %d", "a\n"+s, at, line, col, e)
			}
		}
	}
}

// P1.4.

func TestNameTakes(t *testing.T) {
	for _, s := range []string{"a", "Z", "_", "_1", "x'", "x'1", "a''", "aB9_'", "\u03b1", "\u00e9t\u00e9", "\u4e16\u754c'", "\U0001f600", "\u0080", "\uffff", "val", "end",
		strings.Repeat("a", api.MaxName), strings.Repeat("\u00e9", api.MaxName/2), strings.Repeat("\U0001f600", api.MaxName/4), "a" + strings.Repeat("'", api.MaxName-1)} {
		if !runes.Name(s) {
			t.Errorf("Name(%q)", s)
		}
	}
}

func TestNameRefuses(t *testing.T) {
	wrong := []string{"", "1", "1x", "'", "'a", "9'", " ", " a", "a ", "a b", "a\tb", "a\n", "a.b", ".", "a-", "#1", "~1", "a\"", "a`", "@a", "[a", "a[", "{a", "a{", "a/", "a:", "a\x00", "\x7f", "a\r", "\ufffd", "a\ufffd",
		strings.Repeat("a", api.MaxName+1), strings.Repeat("\u00e9", api.MaxName/2) + "a", strings.Repeat("\u4e16", api.MaxName/3+1), strings.Repeat("a", api.MaxName-1) + "\u00e9"}
	for s := range wrongTexts() {
		wrong = append(wrong, s, "a"+s, s+"a")
	}
	for _, s := range wrong {
		if runes.Name(s) {
			t.Errorf("Name(%q)", s)
		}
	}
}

func TestNameByClasses(t *testing.T) {
	for r := range rune(0x3000) {
		c := runes.Class(r)
		if got := runes.Name(string(r)); got != (c == api.RnLetter) {
			t.Errorf("Name(%q) = %v", string(r), got)
		}
		if got := runes.Name("a" + string(r)); got != (c == api.RnLetter || c == api.RnDigit || r == '\'') {
			t.Errorf("Name(%q) = %v", "a"+string(r), got)
		}
	}
}

// P1.5.

func TestCutTellsTheFirstRunes(t *testing.T) {
	for _, s := range texts() {
		l, _, _ := decoded(s)
		for n := range len(l) + 3 {
			if got, want := runes.Cut(s, n), encoded(l[:min(n, len(l))]); got != want {
				t.Errorf("Cut(%q, %d) = %q", s, n, got)
			}
		}
	}
}

func TestCutByNumbersOfAnySize(t *testing.T) {
	for _, s := range texts() {
		for _, n := range []int{0, -1, -2, math.MinInt, math.MinInt + 1} {
			if got := runes.Cut(s, n); got != "" {
				t.Errorf("Cut(%q, %d) = %q", s, n, got)
			}
		}
		for _, n := range []int{len(s), math.MaxInt32 + 1, math.MaxInt - 1, math.MaxInt} {
			if got := runes.Cut(s, n); got != s {
				t.Errorf("Cut(%q, %d) = %q", s, n, got)
			}
		}
	}
}

func TestCutOfNoText(t *testing.T) {
	for s := range wrongTexts() {
		for _, n := range []int{math.MinInt, -1, 0, 1, 2, 3, 9, math.MaxInt} {
			if got := runes.Cut("ab"+s, n); got != "" {
				t.Errorf("Cut(%q, %d) = %q", "ab"+s, n, got)
			}
		}
	}
}

// P1.6.

func TestRunesAreTheText(t *testing.T) {
	ask := func(s string) {
		l, e := runes.Decode(s)
		if e != api.OK {
			return
		}
		if encoded(l) != s || runes.Count(s) != len(l) {
			t.Fatalf("Decode(%q) = %q", s, l)
		}
		for n := range len(l) + 1 {
			first := runes.Cut(s, n)
			if !strings.HasPrefix(s, first) {
				t.Fatalf("Cut(%q, %d) = %q", s, n, first)
			}
			a, ae := runes.Decode(first)
			b, be := runes.Decode(s[len(first):])
			if ae != api.OK || be != api.OK || !slices.Equal(a, l[:n]) || !slices.Equal(b, l[n:]) {
				t.Fatalf("%q, cut at %d: %q, %q", s, n, a, b)
			}
		}
	}
	for _, s := range texts() {
		ask(s)
	}
	eachEdge(4, ask)
}

func TestEachRuneIsDecodedAsItWas(t *testing.T) {
	for r := range rune(0x110000) {
		s := encoded([]rune{r})
		l, e := runes.Decode(s)
		if 0xd800 <= r && r <= 0xdfff {
			if e != api.ErrText || len(l) != 0 {
				t.Fatalf("Decode(%q) = %v, %d", s, l, e)
			}
		} else if e != api.OK || len(l) != 1 || l[0] != r {
			t.Fatalf("Decode(%q) = %v, %d", s, l, e)
		}
	}
}
