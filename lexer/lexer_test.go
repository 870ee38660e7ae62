package lexer_test

import (
	"math"
	"math/big"
	"slices"
	"strings"
	"testing"

	"marquetry/api"
	"marquetry/lexer"
)

func key(s string) api.Token        { return api.Token{Kind: api.TkKey, Text: s} }
func name(s string) api.Token       { return api.Token{Kind: api.TkName, Text: s} }
func num(n int, s string) api.Token { return api.Token{Kind: api.TkInt, Text: s, N: n} }

// at puts tokens at places.
func at(l []api.Token, places ...int) []api.Token {
	l = slices.Clone(l)
	for i := range l {
		l[i].At = places[i]
	}
	return l
}

// nowhere forgets the tokens' places.
func nowhere(l []api.Token) []api.Token {
	return at(l, make([]int, len(l))...)
}

// wants holds what Lex answers against what it should.
func wants(t *testing.T, s string, w wanted) {
	t.Helper()
	l, at, e := lexer.Lex(s)
	if !slices.Equal(l, w.l) || at != w.at || e != w.e {
		t.Fatalf("Lex(%.200q) = %v, %d, %d; not %v, %d, %d", s, l, at, int(e), w.l, w.at, int(w.e))
	}
}

// tells asks for tokens, wherever they stand.
func tells(t *testing.T, s string, want ...api.Token) {
	t.Helper()
	l, at, e := lexer.Lex(s)
	if !slices.Equal(nowhere(l), want) || at != 0 || e != api.OK {
		t.Errorf("Lex(%.200q) = %v, %d, %d", s, l, at, int(e))
	}
}

// refuses asks for ErrLex at a place.
func refuses(t *testing.T, s string, at int) {
	t.Helper()
	if l, got, e := lexer.Lex(s); len(l) != 0 || got != at || e != api.ErrLex {
		t.Errorf("Lex(%.200q) = %v, %d, %d; not at %d", s, l, got, int(e), at)
	}
}

// oneOfEach is tokens of all kinds: each word, each sign, names and numbers.
func oneOfEach() []api.Token {
	var l []api.Token
	for _, x := range append(slices.Clone(words), signs...) {
		l = append(l, key(x))
	}
	for _, x := range []string{"a", "_", "x'1", "A.b.c'", "value", "Val", "\u00e9", "\u4e16.\U0001f600", "a." + strings.Repeat("b", 32)} {
		l = append(l, name(x))
	}
	return append(l, num(0, "0"), num(7, "7"), num(-7, "~7"), num(10, "10"), num(1<<30, "1073741824"), num(-1<<30, "~1073741824"))
}

// P2.1.

func TestLexTellsTokens(t *testing.T) {
	wants(t, "a.b=>~07", wanted{at([]api.Token{name("a.b"), key("=>"), num(-7, "~7")}, 0, 3, 5), 0, api.OK})
	wants(t, " val\tx\n= (* a *)1 ", wanted{at([]api.Token{key("val"), name("x"), key("="), num(1, "1")}, 1, 5, 7, 16), 0, api.OK})
	wants(t, "\u00e9(*\u4e16*)\u00e9.\u4e16", wanted{at([]api.Token{name("\u00e9"), name("\u00e9.\u4e16")}, 0, 9), 0, api.OK})
	for _, s := range []string{"", " ", "\n\t ", "(**)", "(* val x *)", " (* a *) (* b *)\n"} {
		wants(t, s, wanted{nil, 0, api.OK})
	}
}

func TestLexOfEachToken(t *testing.T) {
	for _, x := range oneOfEach() {
		wants(t, x.Text, wanted{[]api.Token{x}, 0, api.OK})
		wants(t, " "+x.Text+"\n", wanted{at([]api.Token{x}, 1), 0, api.OK})
	}
}

func TestLexOfAllRowsOfPieces(t *testing.T) {
	ask := func(s string) { wants(t, s, oracle(s)) }
	eachRow(4, []string{"a", "val", ".", "1", "~", "'", "(", "*", ")", " ", ":", ">", "=", "-", "#", "\u00e9", "$", "\x01"}, ask)
	eachRow(8, []string{"(", "*", ")", "a"}, ask)
	eachRow(6, []string{"a", ".", "1", "'", "~", "end", " "}, ask)
	eachRow(5, append(slices.Clone(signs), ">", "#", "2"), func(s string) {
		if len(s) < 5 {
			ask(s)
		}
	})
}

func TestLexOfEachRuneAlone(t *testing.T) {
	for r := range rune(0x3000) {
		for _, s := range []string{string(r), "a" + string(r), "1" + string(r), "#" + string(r), "~" + string(r), "a." + string(r)} {
			wants(t, s, oracle(s))
		}
	}
}

func TestLexTakesTheLongest(t *testing.T) {
	tells(t, ":>:=>=->-:=:", key(":>"), key(":"), key("=>"), key("="), key("->"), key("-"), key(":"), key("="), key(":"))
	tells(t, "==>", key("="), key("=>"))
	tells(t, "-->", key("-"), key("->"))
	tells(t, "<->", key("<"), key("->"))
	tells(t, "=->", key("="), key("->"))
	tells(t, "vals val1 val' _val Val", name("vals"), name("val1"), name("val'"), name("_val"), name("Val"))
	tells(t, "type datatype datatypes", key("type"), key("datatype"), name("datatypes"))
	tells(t, "in int integer", key("in"), key("int"), name("integer"))
	tells(t, "struct structure sig signature", key("struct"), key("structure"), key("sig"), key("signature"))
	tells(t, "val\u00e9", name("val\u00e9"))
	tells(t, "12", num(12, "12"))
	tells(t, "a12", name("a12"))
}

func TestLexNeedsNoBlanks(t *testing.T) {
	tells(t, "f(x,1)=>{a}", name("f"), key("("), name("x"), key(","), num(1, "1"), key(")"), key("=>"), key("{"), name("a"), key("}"))
	tells(t, "1~2-3", num(1, "1"), num(-2, "~2"), key("-"), num(3, "3"))
	tells(t, "a~2", name("a"), num(-2, "~2"))
	tells(t, "a#1", name("a"), key("#1"))
	tells(t, "val(**)x", key("val"), name("x"))
	tells(t, "*)", key("*"), key(")"))
	tells(t, "(a*)", key("("), name("a"), key("*"), key(")"))
	tells(t, "( *", key("("), key("*"))
	tells(t, "1(**)2", num(1, "1"), num(2, "2"))
	tells(t, "a(**)b", name("a"), name("b"))
}

func TestLexRefusesWhatBeginsNoToken(t *testing.T) {
	for _, x := range []string{"$", ">", ".", "'", "'a", "\"", ";", "#", "#3", "#0", "#a", "# 1", "~", "~ 1", "~a", "~~1", "~-1", "~(", "~#1", "~.1", "@", "[", "]", "/", "&", "!", "?", "%", "^", "\\", "`", "=~", ".a", "..", "->>", "=>>"} {
		behind := 0
		switch x {
		case "=~":
			behind = 1
		case "->>", "=>>":
			behind = 2
		}
		refuses(t, x, behind)
		refuses(t, "\u00e9 (* c *) "+x, len("\u00e9 (* c *) ")+behind)
	}
	refuses(t, "a $ ; val", 2)
	refuses(t, "a . b", 2)
	refuses(t, "a .b", 2)
	refuses(t, "1.2", 1)
	refuses(t, "a\n\u00e9 ;", 5)
}

func TestLexOfComments(t *testing.T) {
	for _, c := range []string{"(**)", "(***)", "(****)", "(* a *)", "(*\n\t*)", "(*(**)*)", "(*(*(**)*)*)", "(* (* *) (* *) *)", "(*)*)", "(*(*)*)*)", "(* $ \" ' ~ #3 a. 12a 9999999999 *)", "(*\u4e16\U0001f600*)", "(* ( * ) *)", "(*)(*)*)*)", "(*(**(**)*)*)"} {
		wants(t, "a"+c+"b", wanted{at([]api.Token{name("a"), name("b")}, 0, 1+len(c)), 0, api.OK})
		wants(t, c+"b"+c, wanted{at([]api.Token{name("b")}, len(c)), 0, api.OK})
		wants(t, c+c, wanted{nil, 0, api.OK})
	}
	for _, c := range []string{"(*", "(*)", "(* ", "(* *", "(* )", "(* a", "(*(**)", "(* (* *) ", "(*(*(**)*)", "(* * )", "(*(*)*)", "(**", "(*\n"} {
		refuses(t, c, 0)
		refuses(t, "a (**) "+c, 7)
	}
	refuses(t, "(**)*) $", 7)
}

func TestLexOfCommentsWithinOneAnother(t *testing.T) {
	const n = api.MaxSource / 4
	tells(t, strings.Repeat("(*", n)+strings.Repeat("*)", n))
	refuses(t, strings.Repeat("(*", n)+strings.Repeat("*)", n-1), 0)
	refuses(t, strings.Repeat("(*", n-1)+strings.Repeat("*)", n)+">", 4*n-2)
	tells(t, strings.Repeat("(**)", n))
	refuses(t, strings.Repeat("(*", 2*n), 0)
}

func TestLexOfNames(t *testing.T) {
	for _, s := range []string{"a", "a.b", "a.b.c", "a'.b'", "_._", "a1.b2", "\u00e9.\u4e16", "vals.ends", "a.value", "mu'.x"} {
		wants(t, s, wanted{[]api.Token{name(s)}, 0, api.OK})
	}
	for _, s := range []string{"a.", "a..", "a..b", "a.b.", "a.1", "a.1b", "a.'", "a.b.2", "a. b", "a.\nb", "a.(**)b", "a.$", "a.=", "a.~1", "a.#1", "a.*", "val.", "end.1"} {
		refuses(t, s, 0)
		refuses(t, "x "+s, 2)
	}
	for _, w := range words {
		refuses(t, "a."+w, 0)
		refuses(t, "( a.b."+w+" )", 2)
		refuses(t, w+".a", 0)
		refuses(t, " a."+w+".b", 1)
		tells(t, w+" a", key(w), name("a"))
		tells(t, w+"' a."+w+"1", name(w+"'"), name("a."+w+"1"))
	}
}

func TestLexAtTheLimitsOfNames(t *testing.T) {
	for _, s := range []string{strings.Repeat("a", 32), strings.Repeat("\u00e9", 16), "a" + strings.Repeat("'", 31), strings.Repeat("\U0001f600", 8)} {
		tells(t, s, name(s))
		refuses(t, s+"a", 0)
		refuses(t, s+"1", 0)
		refuses(t, s+"'", 0)
		refuses(t, "= "+s+"\u00e9", 2)
		tells(t, "x."+s+".y", name("x."+s+".y"))
		refuses(t, " x."+s+"b.y", 1)
		refuses(t, " "+s+"b.y", 1)
	}
	piece := strings.Repeat("b", 31) + "."
	for _, s := range []string{strings.Repeat("a.", 63) + "bc", piece + piece + piece + strings.Repeat("b", 32), strings.Repeat("\u00e9.", 42) + "aa"} {
		if len(s) != api.MaxLong {
			t.Error(len(s))
		}
		tells(t, s, name(s))
		tells(t, s+" (**) "+s, name(s), name(s))
		refuses(t, "x "+s+"c", 2)
		refuses(t, s[:len(s)-1]+".b", 0)
		refuses(t, s+".b", 0)
	}
	refuses(t, strings.Repeat("a.", 64)+"a", 0)
	refuses(t, strings.Repeat("a", api.MaxSource), 0)
	refuses(t, strings.Repeat("a.", api.MaxSource/2), 0)
}

func TestLexOfNumbers(t *testing.T) {
	for s, x := range map[string]api.Token{"0": num(0, "0"), "~0": num(0, "0"), "000": num(0, "0"), "007": num(7, "7"), "~07": num(-7, "~7"), "42": num(42, "42"), "~42": num(-42, "~42"), "08": num(8, "8"),
		"1073741824": num(1<<30, "1073741824"), "~1073741824": num(-1<<30, "~1073741824"), "01073741824": num(1<<30, "1073741824"), "1073741823": num(1<<30-1, "1073741823"),
		strings.Repeat("0", api.MaxSource-1) + "9": num(9, "9"), "~" + strings.Repeat("0", api.MaxSource-11) + "1073741824": num(-1<<30, "~1073741824")} {
		tells(t, s, x)
	}
	for _, s := range []string{"1073741825", "~1073741825", "01073741825", "2147483647", "2147483648", "4294967296", "4294967297", "9223372036854775807", "9223372036854775808", "~9223372036854775808", "18446744073709551616", "18446744073709551617", "99999999999999999999999999",
		"12a", "1_", "1'", "~1a", "~1'", "0x1", "1e5", "1\u00e9", "1\u0663", "12val", "007_"} {
		refuses(t, s, 0)
		refuses(t, "x "+s, 2)
	}
	refuses(t, strings.Repeat("9", api.MaxSource), 0)
	refuses(t, "~"+strings.Repeat("9", api.MaxSource-1), 0)
	refuses(t, "1"+strings.Repeat("0", 9)+" "+strings.Repeat("1", 12), 11)
}

func TestLexOfSignsWithDigits(t *testing.T) {
	tells(t, "#1", key("#1"))
	tells(t, "#12", key("#1"), num(2, "2"))
	tells(t, "#21", key("#2"), num(1, "1"))
	tells(t, "#1x", key("#1"), name("x"))
	tells(t, "#2val", key("#2"), key("val"))
	tells(t, "#1#2", key("#1"), key("#2"))
	tells(t, "#1~3", key("#1"), num(-3, "~3"))
	tells(t, "#1(*a*)1", key("#1"), num(1, "1"))
	tells(t, "#10", key("#1"), num(0, "0"))
	refuses(t, "#12a", 2)
	refuses(t, "#1'", 2)
	refuses(t, "#1.a", 2)
	refuses(t, "#1#", 2)
}

func TestLexAtTheLimitOfTexts(t *testing.T) {
	most := strings.Repeat("a ", api.MaxSource/2)
	if l, at, e := lexer.Lex(most); len(l) != api.MaxSource/2 || l[len(l)-1].At != api.MaxSource-2 || at != 0 || e != api.OK {
		t.Error(len(l), at, int(e))
	}
	refuses(t, most[1:]+"$", api.MaxSource-1)
	for _, s := range []string{most + " ", most + "$", "$" + most, "\xff" + most, most + "\x01"} {
		wants(t, s, wanted{nil, 0, api.ErrLong})
	}
}

func TestLexRefusesWhatCheckRefuses(t *testing.T) {
	for _, x := range []string{"\x01", "\r", "\x00", "\x1f", "\x7f", "\xff", "\xc3", "\x80", "\ufffd", "\xed\xa0\x80", "\xf4\x90\x80\x80"} {
		wants(t, x, wanted{nil, 0, api.ErrText})
		wants(t, "a \u00e9"+x, wanted{nil, 4, api.ErrText})
		wants(t, "$ 12a (* "+x, wanted{nil, 9, api.ErrText})
		wants(t, "(*"+x+"*)", wanted{nil, 2, api.ErrText})
	}
}

func TestLexHandsOutNewLists(t *testing.T) {
	l, _, _ := lexer.Lex("a = 1")
	clear(l)
	tells(t, "a = 1", name("a"), key("="), num(1, "1"))
}

// P2.2.

func TestNumber(t *testing.T) {
	for n, want := range map[int]string{0: "0", 1: "1", -1: "~1", 10: "10", -907: "~907", 1 << 30: "1073741824", -1 << 30: "~1073741824", math.MaxInt64: "9223372036854775807", math.MinInt64: "~9223372036854775808", math.MinInt64 + 1: "~9223372036854775807"} {
		if got := lexer.Number(n); got != want {
			t.Errorf("Number(%d) = %q", n, got)
		}
	}
	for n := -2000; n < 2000; n++ {
		if got := lexer.Number(n); valueOf(got).Cmp(big.NewInt(int64(n))) != 0 || strings.ContainsAny(got, "-+ ") {
			t.Errorf("Number(%d) = %q", n, got)
		}
	}
}

func TestShowPutsABlankBetween(t *testing.T) {
	for want, l := range map[string][]api.Token{
		"":                             nil,
		"a":                            {name("a")},
		"( * )":                        {key("("), key("*"), key(")")},
		"val x = ~3":                   {key("val"), name("x"), key("="), num(-3, "~3")},
		"#1 2 A.b :> \u00e9 = => -> 0": {key("#1"), num(2, "2"), name("A.b"), key(":>"), name("\u00e9"), key("="), key("=>"), key("->"), num(0, "0")},
	} {
		if s, e := lexer.Show(l); s != want || e != api.OK {
			t.Errorf("Show(%v) = %q, %d", l, s, int(e))
		}
	}
	if s, e := lexer.Show([]api.Token{}); s != "" || e != api.OK {
		t.Error(s, int(e))
	}
}

func TestShowLooksAtNoPlace(t *testing.T) {
	for _, x := range oneOfEach() {
		for _, place := range []int{0, 1, -1, 99, math.MinInt, math.MaxInt} {
			l := at([]api.Token{x, x}, place, place)
			if s, e := lexer.Show(l); s != x.Text+" "+x.Text || e != api.OK {
				t.Errorf("Show(%v) = %q, %d", l, s, int(e))
			}
			if l[0].At != place || l[1].At != place {
				t.Error("what was handed in is changed", l)
			}
		}
	}
}

// wrongTokens are none that Lex tells.
func wrongTokens() []api.Token {
	l := []api.Token{{}, name(""), key(""), num(0, ""), key("a"), name("1"), key("1"), name("="), num(0, "a"), num(0, "="), num(1, "val"),
		name("a b"), name(" a"), name("a "), name("a\n"), name("a(**)"), name("(**)a"), name("(**)"), name("(*"), key("(*"), key("*)"), key("( )"), key(" ("), key("= "), key("==>"), key(">"), key("."), key("~"), key("#"), key("#3"), key("#12"), key(";"), key("val x"), key("Val"),
		name("a."), name(".a"), name("a..b"), name("a.1"), name("a.val"), name("val.a"), name("a.end.b"), name("'a"), name("a;"), name("a-b"), name("\xff"), name("a\xff"), name("\ufffd"), name("a\x01"), key("\xff"),
		name(strings.Repeat("a", 33)), name(strings.Repeat("\u00e9", 16) + "a"), name("a." + strings.Repeat("a", 33)), name(strings.Repeat("a.", 64) + "a"), name(strings.Repeat("a", api.MaxSource+1)), name(strings.Repeat("a ", api.MaxSource/2)),
		num(7, "07"), num(7, "8"), num(-7, "7"), num(7, "~7"), num(0, "~0"), num(0, "00"), num(-7, "-7"), num(7, "+7"), num(7, " 7"), num(7, "7 "), num(7, "7a"), num(12, "1 2"),
		num(1<<30+1, "1073741825"), num(-1<<30-1, "~1073741825"), num(math.MaxInt64, "9223372036854775807"), num(math.MinInt64, "~9223372036854775808"), num(1<<32+7, "7"), num(0, "4294967296"),
	}
	for _, w := range append(slices.Clone(words), signs...) {
		l = append(l, name(w), num(0, w), api.Token{Kind: 0, Text: w}, api.Token{Kind: api.TkKey, Text: w, N: 1}, key(w+" "), key(w+w))
	}
	for _, k := range []int{0, 4, -1, 1 << 32, 1<<32 + 1, 1<<32 + 3, math.MinInt, math.MaxInt} {
		l = append(l, api.Token{Kind: k, Text: "a"}, api.Token{Kind: k, Text: "7", N: 7}, api.Token{Kind: k, Text: "val"})
	}
	for _, n := range []int{1, -1, math.MinInt, math.MaxInt} {
		l = append(l, api.Token{Kind: api.TkName, Text: "a", N: n}, api.Token{Kind: api.TkInt, Text: "7", N: n})
	}
	return l
}

func TestShowRefuses(t *testing.T) {
	for _, x := range wrongTokens() {
		for _, l := range [][]api.Token{{x}, {name("a"), x}, {x, name("a")}, at([]api.Token{key("="), x, key("=")}, 1, 2, 3)} {
			if s, e := lexer.Show(l); s != "" || e != api.ErrArg {
				t.Errorf("Show with %d %.200q %d = %.200q, %d", x.Kind, x.Text, x.N, s, int(e))
			}
		}
	}
}

// What lies behind a list's length is no part of it.
func TestShowReadsNoFurther(t *testing.T) {
	l := []api.Token{name("a"), name("val"), {}}
	if s, e := lexer.Show(l[:1]); s != "a" || e != api.OK {
		t.Error(s, int(e))
	}
	if l[1] != name("val") || l[2] != (api.Token{}) {
		t.Error(l)
	}
}

// Only Lex is bound by MaxSource.
func TestShowOfLongLists(t *testing.T) {
	l := slices.Repeat([]api.Token{name("abc")}, api.MaxSource)
	if s, e := lexer.Show(l); e != api.OK || len(s) != 4*api.MaxSource-1 {
		t.Error(len(s), int(e))
	}
}

// P2.3.

func TestWord(t *testing.T) {
	if len(words) != 29 {
		t.Error(len(words))
	}
	for _, w := range words {
		if !lexer.Word(w) {
			t.Errorf("Word(%q)", w)
		}
		for _, s := range []string{w + "s", w + "'", w + " ", " " + w, w + "." + w, w + w, strings.ToUpper(w), strings.ToUpper(w[:1]) + w[1:], w + "\x00", "\u00e9" + w} {
			if lexer.Word(s) {
				t.Errorf("Word(%q)", s)
			}
		}
		for i := range w {
			if s := w[:i]; lexer.Word(s) != slices.Contains(words, s) {
				t.Errorf("Word(%q)", s)
			}
			if s := w[i+1:]; lexer.Word(s) != slices.Contains(words, s) {
				t.Errorf("Word(%q)", s)
			}
		}
	}
	for _, s := range append([]string{"", "rec", "x", "do", "fun", "and", "or", "not", "with", "op", "match", "module", "string", "as", "1", "~", "\xff"}, signs...) {
		if lexer.Word(s) {
			t.Errorf("Word(%q)", s)
		}
	}
}

// P2.4.

// again asks that tokens are lexed as they were, when they are shown.
func again(t *testing.T, l []api.Token) {
	t.Helper()
	s, e := lexer.Show(l)
	if e != api.OK {
		t.Fatalf("Show(%v): %d", l, int(e))
	}
	got, at, e := lexer.Lex(s)
	if !slices.Equal(nowhere(got), nowhere(l)) || at != 0 || e != api.OK {
		t.Fatalf("Lex(%q) = %v, %d, %d", s, got, at, int(e))
	}
	for _, x := range got {
		if !strings.HasPrefix(s[x.At:], x.Text) {
			t.Fatalf("Lex(%q): %v", s, x)
		}
	}
}

func TestWhatIsShownIsLexed(t *testing.T) {
	all := oneOfEach()
	again(t, nil)
	again(t, all)
	for _, x := range all {
		for _, y := range all {
			again(t, []api.Token{x, y})
			again(t, []api.Token{x, y, x, x, y})
		}
	}
}

func TestWhatIsLexedIsShown(t *testing.T) {
	eachRow(5, []string{"a", ".", "1", "~", "(", "*", ")", " ", "=", ">", "#1", "mu"}, func(s string) {
		if l, _, e := lexer.Lex(s); e == api.OK {
			again(t, l)
		}
	})
}

func TestBlanksAndCommentsChangeOnlyPlaces(t *testing.T) {
	all := oneOfEach()
	for _, between := range []string{" ", "\n", "\t", " \n\t ", "(**)", "(* a (* b *) = *)", " (***) (* $ *)\n"} {
		var s strings.Builder
		var places []int
		for _, x := range all {
			s.WriteString(between)
			places = append(places, s.Len())
			s.WriteString(x.Text)
		}
		wants(t, s.String()+between, wanted{at(all, places...), 0, api.OK})
	}
}
