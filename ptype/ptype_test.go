package ptype_test

import (
	"fmt"
	"math"
	"slices"
	"strconv"
	"strings"
	"testing"

	"marquetry/api"
	"marquetry/lexer"
	"marquetry/ptype"
	"marquetry/shape"
)

// rules are the calls that parse, by the oracle's names.
func rules() map[string]func(l []api.Token, i int) answer {
	return map[string]func(l []api.Token, i int) answer{
		"TYPE": func(l []api.Token, i int) answer {
			n, next, e := ptype.Type(l, i)
			if n == nil {
				return answer{nil, next, e}
			}
			return answer{[]string{text(n)}, next, e}
		},
		"CONS": func(l []api.Token, i int) answer {
			cons, next, e := ptype.Cons(l, i)
			return answer{texts(cons), next, e}
		},
	}
}

func (a answer) same(b answer) bool {
	return slices.Equal(a.trees, b.trees) && a.next == b.next && a.e == b.e
}

func (a answer) shown() string {
	return fmt.Sprintf("%.400q, %d, %d", a.trees, a.next, int(a.e))
}

// agrees asks of both rules at each place of a list, and beyond, and the oracle.
func agrees(t *testing.T, l []api.Token) {
	t.Helper()
	for i := -1; i <= len(l)+1; i++ {
		agreesAt(t, l, i)
	}
}

func agreesAt(t *testing.T, l []api.Token, i int) {
	t.Helper()
	for rule, ask := range rules() {
		if got, want := ask(l, i), oracle(rule, l, i); !got.same(want) {
			t.Fatalf("%s of %.400q at %d: %s, not %s", rule, shown(l), i, got.shown(), want.shown())
		}
	}
}

func shown(l []api.Token) string {
	var s []string
	for _, x := range l {
		s = append(s, x.Text)
	}
	return strings.Join(s, " ")
}

// leaf, tree and node make nodes of what is at hand.
func leaf(kind int) *api.Node { return &api.Node{Kind: kind} }

func tree(kind int, kids ...*api.Node) *api.Node { return &api.Node{Kind: kind, Kids: kids} }

func node(kind int, name string, kids ...*api.Node) *api.Node {
	return &api.Node{Kind: kind, Name: name, Kids: kids}
}

func arrow(a, b *api.Node) *api.Node { return tree(api.TArrow, a, b) }
func pair(a, b *api.Node) *api.Node  { return tree(api.TPair, a, b) }
func name(s string) *api.Node        { return node(api.TName, s) }

func con(name string, n *api.Node) *api.Node { return node(api.TCon, name, n) }

// parses asks for a type's tree and place.
func parses(t *testing.T, s string, at int, want *api.Node, next int) {
	t.Helper()
	got, where, e := ptype.Type(tokensOf(s), at)
	if e != api.OK || where != next || text(got) != text(want) {
		t.Errorf("%q at %d: %s, %d, %d", s, at, text(got), where, int(e))
	}
}

// refuses asks for a rule's error and place.
func refuses(t *testing.T, rule string, l []api.Token, at, next int, e api.Errno) {
	t.Helper()
	if got := rules()[rule](l, at); !got.same(answer{nil, next, e}) {
		t.Errorf("%s of %.200q at %d: %s, not %d, %d", rule, shown(l), at, got.shown(), next, int(e))
	}
}

// P6.1: each rule of the grammar.

func TestExamples(t *testing.T) {
	l, _, _ := lexer.Lex("int * bool -> t.u")
	n, next, e := ptype.Type(l, 0)
	if text(n) != text(arrow(pair(leaf(api.TInt), leaf(api.TBool)), name("t.u"))) || next != 5 || e != api.OK {
		t.Error(text(n), next, int(e))
	}
	if s, e := ptype.Write(pair(pair(name("a"), name("b")), name("c"))); s != "( a * b ) * c" || e != api.OK {
		t.Errorf("%q %d", s, int(e))
	}
}

func TestTypesOfEachRule(t *testing.T) {
	i, b, u := leaf(api.TInt), leaf(api.TBool), leaf(api.TUnit)
	for _, x := range []struct {
		s    string
		want *api.Node
	}{
		{"int", i}, {"bool", b}, {"unit", u}, {"t", name("t")}, {"M.N.t", name("M.N.t")}, {"( int )", i}, {"( ( ( t.u ) ) )", name("t.u")},
		{"int -> bool", arrow(i, b)}, {"int -> bool -> unit", arrow(i, arrow(b, u))}, {"( int -> bool ) -> unit", arrow(arrow(i, b), u)}, {"int -> ( bool -> unit )", arrow(i, arrow(b, u))},
		{"int -> bool -> unit -> t", arrow(i, arrow(b, arrow(u, name("t"))))}, {"int -> ( bool -> unit ) -> t", arrow(i, arrow(arrow(b, u), name("t")))},
		{"int * bool", pair(i, b)}, {"int * bool * unit", pair(i, pair(b, u))}, {"( int * bool ) * unit", pair(pair(i, b), u)}, {"int * ( bool * unit )", pair(i, pair(b, u))},
		{"int * bool * unit * t", pair(i, pair(b, pair(u, name("t"))))}, {"int * ( bool * unit ) * t", pair(i, pair(pair(b, u), name("t")))},
		{"int * bool -> unit", arrow(pair(i, b), u)}, {"int -> bool * unit", arrow(i, pair(b, u))}, {"int * ( bool -> unit )", pair(i, arrow(b, u))}, {"( int -> bool ) * unit", pair(arrow(i, b), u)}, {"int * bool -> bool * unit -> t * t", arrow(pair(i, b), arrow(pair(b, u), pair(name("t"), name("t"))))},
		{"mu l { A of int }", node(api.TMu, "l", con("A", i))}, {"mu l { A of int -> bool | B of int * bool | C of ( l ) }", node(api.TMu, "l", con("A", arrow(i, b)), con("B", pair(i, b)), con("C", name("l")))},
		{"mu l { A of mu k { A of k } | B of mu l { B of int | A of l } }", node(api.TMu, "l", con("A", node(api.TMu, "k", con("A", name("k")))), con("B", node(api.TMu, "l", con("B", i), con("A", name("l")))))},
		{"mu l { A of int } * mu l { A of int } -> mu l { A of int }", arrow(pair(node(api.TMu, "l", con("A", i)), node(api.TMu, "l", con("A", i))), node(api.TMu, "l", con("A", i)))}, {"( mu l { A of int } )", node(api.TMu, "l", con("A", i))},
	} {
		next := len(strings.Fields(x.s))
		parses(t, x.s, 0, x.want, next)
		parses(t, "val x : "+x.s, 3, x.want, next+3)
		for _, behind := range []string{"=", "x", "int", "mu", ")", "}", "|", "of", "val", "7", "( int )", "-", "=> x"} {
			parses(t, "-> ( "+x.s+" "+behind, 2, x.want, next+2)
		}
	}
}

func TestConsOfEachRule(t *testing.T) {
	i, b := leaf(api.TInt), leaf(api.TBool)
	for _, x := range []struct {
		s    string
		want []*api.Node
	}{
		{"A of int", []*api.Node{con("A", i)}}, {"A of int | B of bool", []*api.Node{con("A", i), con("B", b)}}, {"t of t | u of t.u | v of int -> bool -> int", []*api.Node{con("t", name("t")), con("u", name("t.u")), con("v", arrow(i, arrow(b, i)))}},
		{"A of int * bool | B of mu A { A of int | B of bool } | C of ( bool )", []*api.Node{con("A", pair(i, b)), con("B", node(api.TMu, "A", con("A", i), con("B", b))), con("C", b)}},
	} {
		for _, behind := range []string{"", "}", "end", "x", "of", "A of int", "=", ")", "int", "7", "( int )"} {
			for _, ahead := range []string{"", "datatype t = ", "| ", "mu t { "} {
				at := len(strings.Fields(ahead))
				got, next, e := ptype.Cons(tokensOf(ahead+x.s+" "+behind), at)
				if e != api.OK || next != at+len(strings.Fields(x.s)) || !slices.Equal(texts(got), texts(x.want)) {
					t.Errorf("%q at %d: %q, %d, %d", ahead+x.s+behind, at, texts(got), next, int(e))
				}
			}
		}
	}
}

func TestTokensOfATextAreTypes(t *testing.T) {
	l, _, _ := lexer.Lex("type t=(int->M.t)*mu l{N of unit|C of int*l}(* -> int *)val")
	n, next, e := ptype.Type(l, 3)
	want := pair(arrow(leaf(api.TInt), name("M.t")), node(api.TMu, "l", con("N", leaf(api.TUnit)), con("C", pair(leaf(api.TInt), name("l")))))
	if e != api.OK || next != len(l)-1 || text(n) != text(want) {
		t.Error(text(n), next, int(e))
	}
}

// P6.1: places where there is nothing.

func TestPlacesOfAList(t *testing.T) {
	for _, s := range []string{"", "int", "A of int", "int -> int"} {
		l := tokensOf(s)
		for rule := range rules() {
			refuses(t, rule, l, len(l), len(l), api.ErrParse)
			for _, i := range []int{-1, -2, math.MinInt, math.MinInt32, len(l) + 1, len(l) + 2, len(l) + 100, math.MaxInt, math.MaxInt32, 1 << 32, 1<<32 + 1, -1 << 32} {
				refuses(t, rule, l, i, 0, api.ErrArg)
			}
		}
	}
	refuses(t, "TYPE", []api.Token{}, 0, 0, api.ErrParse)
	refuses(t, "CONS", []api.Token{}, 0, 0, api.ErrParse)
	refuses(t, "TYPE", nil, 1, 0, api.ErrArg)
	parses(t, "int bool", 0, leaf(api.TInt), 1)
	parses(t, "int bool", 1, leaf(api.TBool), 2)
}

func TestListsThatEndWhereMoreHasToCome(t *testing.T) {
	l := tokensOf("( int -> mu t { A of bool * t | B of ( t.u ) } )")
	for n := range len(l) {
		refuses(t, "TYPE", l[:n], 0, n, api.ErrParse)
	}
	l = tokensOf("A of ( int -> t ) | B of")
	for n := range len(l) + 1 {
		if n != 7 {
			refuses(t, "CONS", l[:n], 0, n, api.ErrParse)
		}
	}
	for _, s := range []string{"int ->", "int *", "int -> int *", "int * int ->", "(", "( int", "( int *", "mu", "mu t", "mu t {", "mu t { A", "mu t { A of", "mu t { A of int", "mu t { A of int |", "mu t { A of int | B of int", "int -> mu t { A of int"} {
		l := tokensOf(s)
		refuses(t, "TYPE", l, 0, len(l), api.ErrParse)
		refuses(t, "TYPE", append(tokensOf("x x"), l...), 2, len(l)+2, api.ErrParse)
	}
}

func TestTheFirstTokenWithWhichNoneGoesOn(t *testing.T) {
	for s, at := range map[string]int{
		"val": 0, "->": 0, "*": 0, ")": 0, "}": 0, "{": 0, "|": 0, "of": 0, "7": 0, "=": 0, "true": 0, "end": 0,
		"( )": 1, "( -> int )": 1, "( int int )": 2, "( int }": 2, "( int of": 2, "( int | int )": 2, "( int , int )": 2, "( ( int ) }": 4,
		"int -> ->": 2, "int -> )": 2, "int -> val": 2, "int -> * int": 2, "int * *": 2, "int * -> int": 2, "int * }": 2, "int * of": 2, "int -> int * 7": 4, "int -> ( int": 4,
		"mu {": 1, "mu int { A of int }": 1, "mu 7 { A of int }": 1, "mu val { A of int }": 1, "mu ( t )": 1, "mu a.b { A of int }": 1, "mu ( {": 1, "mu mu t { A of int }": 1,
		"mu t ( A of int )": 2, "mu t A of int": 2, "mu t . {": 2, "mu t -> int": 2, "mu t t {": 2,
		"mu t { }": 3, "mu t { | A of int }": 3, "mu t { int of int }": 3, "mu t { a.b of int }": 3, "mu t { 7 of int }": 3, "mu t { ( A of int ) }": 3, "mu t { of }": 3,
		"mu t { A }": 4, "mu t { A int }": 4, "mu t { A | B of int }": 4, "mu t { A A of int }": 4, "mu t { A -> int }": 4,
		"mu t { A of }": 5, "mu t { A of | B of int }": 5, "mu t { A of of int }": 5, "mu t { A of ( }": 6, "mu t { A of val }": 5,
		"mu t { A of int )": 6, "mu t { A of int , B of int }": 6, "mu t { A of int B of int }": 6, "mu t { A of int of }": 6, "mu t { A of int ; }": 6,
		"mu t { A of int | }": 7, "mu t { A of int | | B of int }": 7, "mu t { A of int | B.C of int }": 7, "mu t { A of int | int }": 7, "mu t { A of int | B }": 8,
	} {
		l := tokensOf(s)
		refuses(t, "TYPE", l, 0, at, api.ErrParse)
		refuses(t, "TYPE", append(tokensOf("int -> mu"), l...), 3, at+3, api.ErrParse)
	}
	for s, at := range map[string]int{"int": 0, "of": 0, "|": 0, "A.B of int": 0, "7 of int": 0, "( A of int )": 0, "A": 1, "A int": 1, "A | B of int": 1, "A A": 1, "A of": 2, "A of }": 2, "A of |": 2, "A of of": 2, "A of int ->": 4, "A of int | }": 4, "A of int | int": 4, "A of int | B.C of int": 4, "A of int | B |": 5, "A of ( int |": 4, "A of mu A { B.C": 5} {
		l := tokensOf(s)
		refuses(t, "CONS", l, 0, at, api.ErrParse)
		refuses(t, "CONS", append(tokensOf("mu t {"), l...), 3, at+3, api.ErrParse)
	}
}

// P6.1: names that stand twice.

func TestConstructorsNamesThatStandTwice(t *testing.T) {
	for s, at := range map[string]int{
		"A of int | A of int": 4, "A of int | B of int | A of int": 8, "A of int | B of int | B of int": 8, "A of int | B of int | C of int | A of int": 12, "A of int | A of int | A of int": 4, "A of int | B of int | B of int | A of int": 8,
		"A of ( int -> int ) * int | B of int | A of int": 14, "A of mu B { B of int } | A of int": 10, "A of mu B { B of int } | B of int | A of bool": 14, "\u00e9 of int | \u00e9 of int": 4,
		"A of mu t { B of int | B of int } | A of int": 9, "A of mu t { A of int | B of int | A of int } | A of int": 13, "A of int | B of mu t { A of int | A of int }": 13, "A of mu t { A of mu t { A of int } | A of int } | A of int": 15, "A of mu t { A of mu t { A of int } } | A of int": 16,
		"A of int -> mu t { C of int | D of int | C of int }": 15, "A of ( mu t { C of int | C of int": 10,
	} {
		l := tokensOf(s)
		refuses(t, "CONS", l, 0, at, api.ErrTwice)
		refuses(t, "CONS", append(tokensOf("A of int | B of int |"), l...), 8, at+8, api.ErrTwice)
		refuses(t, "TYPE", tokensOf("mu t { "+s+" }"), 0, at+3, api.ErrTwice)
		refuses(t, "TYPE", tokensOf("int -> ( A * mu A { "+s+" } )"), 0, at+8, api.ErrTwice)
	}
}

func TestNamesThatMayStandAgain(t *testing.T) {
	for _, s := range []string{
		"mu A { A of A }", "mu t { A of mu t { A of int } }", "mu t { A of mu t { A of int } | B of mu t { A of int | B of A } }", "mu t { A of A | B of A | C of A * A }", "mu t { A of int | A' of int | a of int | A1 of int | AA of int }",
		"mu t { A of int } -> mu t { A of int } * mu t { A of int }", "mu t { A of mu u { B of int } | B of int }", "mu t { A of mu u { B of int } * mu u { B of int } | B of mu t { B of int } }",
	} {
		l := tokensOf(s)
		n, next, e := ptype.Type(l, 0)
		if e != api.OK || next != len(l) || text(n) != typeText(l) {
			t.Errorf("%q: %s, %d, %d", s, text(n), next, int(e))
		}
	}
	parses(t, "int mu t { A of int | A of int }", 0, leaf(api.TInt), 1)
	parses(t, "t A of int | A of int", 0, name("t"), 1)
	if cons, next, e := ptype.Cons(tokensOf("A of int } | A of int"), 0); len(cons) != 1 || next != 3 || e != api.OK {
		t.Error(len(cons), next, int(e))
	}
}

func TestTheErrorThatComesFirstIsTold(t *testing.T) {
	for s, at := range map[string]int{"A of int | A": 4, "A of int | A int": 4, "A of int | A of": 4, "A of int | A of )": 4, "A of int | A | of": 4, "A of int | A A A": 4, "A of mu t { B of int | B } | A": 9} {
		refuses(t, "CONS", tokensOf(s), 0, at, api.ErrTwice)
		refuses(t, "TYPE", tokensOf("mu t { "+s), 0, at+3, api.ErrTwice)
	}
	for s, at := range map[string]int{"A int | A of int": 1, "A | A of int": 1, "A of -> | A of int": 2, "A of int | | A of int": 4, "A of ( int | A of int": 4, "A of int | A.A of int | A of int": 4, "A of mu t { B of B B | B of int } | A of int": 8, "A of mu ( { B of int | B": 3} {
		refuses(t, "CONS", tokensOf(s), 0, at, api.ErrParse)
		refuses(t, "TYPE", tokensOf("mu t { "+s), 0, at+3, api.ErrParse)
	}
	refuses(t, "TYPE", tokensOf("mu t { A of int A of int }"), 0, 6, api.ErrParse)
	refuses(t, "TYPE", tokensOf("int * ( int mu t { A of int | A of int }"), 0, 4, api.ErrParse)
}

// P6.1: tokens that have the right text and another kind.

func kindsOfNone() []int {
	return []int{0, -1, 4, 5, -3, 99, math.MinInt, math.MaxInt, 1<<32 + api.TkKey, 1<<32 + api.TkName, -1 << 32}
}

// Each token of a row gets each other kind.
func TestTokensOfOtherKinds(t *testing.T) {
	for _, s := range []string{"int", "bool", "unit", "t.u", "( int )", "int -> t", "int * t", "mu t { A of int | B of t }", "A of int | B of ( t -> t ) * mu t { A of int }"} {
		l := tokensOf(s)
		agrees(t, l)
		for i := range l {
			for _, kind := range append(kindsOfNone(), api.TkName, api.TkInt, api.TkKey) {
				other := slices.Clone(l)
				other[i].Kind = kind
				agrees(t, other)
				other[i].Text = ""
				agrees(t, other)
			}
		}
	}
	for _, kind := range append(kindsOfNone(), api.TkInt) {
		for _, s := range []string{"int", "t", "t.u", "(", "mu", "7", ""} {
			l := append([]api.Token{{Kind: kind, Text: s}}, tokensOf("int ) } t { A of int }")...)
			refuses(t, "TYPE", l, 0, 0, api.ErrParse)
			refuses(t, "CONS", l, 0, 0, api.ErrParse)
		}
		l := tokensOf("int -> int")
		l[1].Kind = kind
		if n, next, e := ptype.Type(l, 0); text(n) != text(leaf(api.TInt)) || next != 1 || e != api.OK {
			t.Error(text(n), next, int(e))
		}
	}
	for _, s := range []string{"t", "t.u", "7", "INT", "Int", "int ", "", "->>", "mu t"} {
		refuses(t, "TYPE", []api.Token{{Kind: api.TkKey, Text: s}}, 0, 0, api.ErrParse)
	}
}

// P6.1: tokens of a name's kind whose texts are none.

// textsOfNoName tells texts that no TkName has: words and signs, dots with nothing at a side, what is too long, bytes that no name has.
func textsOfNoName() []string {
	long := strings.Repeat("abcdefg.", 16) // 128 bytes, the last one a dot
	return append(strings.Fields(keys),
		"", ".", "..", "a.", ".a", "a..b", "a.b.", ".a.b", "a.b..c", "int.int", "a.val", "val.a", "b.int.c", "a.b.mu",
		"7", "~7", "7a", "'", "'a", "a.7", "a.'b", "a.~7", "a-b", "a;", "a,b", "->>", "mu t", "a b", " a", "a ", "a\t", "a\n", "a. b", "a .b", "(**)", "a(**)",
		strings.Repeat("a", 33), "a."+strings.Repeat("a", 33), strings.Repeat("a", 33)+".a", strings.Repeat("\u00e9", 16)+"a", strings.Repeat("a", 128), strings.Repeat("a", 1<<16), long, long+"h", strings.Repeat("a.", 64)+"a", strings.Repeat("a.", 1<<15)+"a",
		"\xff", "a\xff", "\xffa", "a.\xff", "\xc3", "a\xc3", "\xed\xa0\x80", "\xf4\x90\x80\x80", "\ufffd", "a\ufffd", "a.b\ufffd", "\x00", "a\x00", "a\x7f", "a.\x7f",
	)
}

// textsOfNames tells texts of one name, textsOfSeveral of names with dots.
func textsOfNames() []string {
	return []string{"a", "Z", "_", "t'", "a''1", "a0", "_9'", "int'", "mu1", "Int", "vals", "\u00e9", "\u0080", "\ufffc", "\ufffe", "\U0010ffff", "x\u00e9\U00010000'", strings.Repeat("a", 32), strings.Repeat("\u00e9", 16), "a" + strings.Repeat("'", 31)}
}

func textsOfSeveral() []string {
	return []string{"a.b", "a.a", "a.b.c", "_._'", "int'.vals", "\u00e9.\u0080.x1", strings.Repeat("a", 32) + ".b", "b." + strings.Repeat("a", 32), strings.Repeat("abcdefg.", 15) + "abcdefgh", strings.Repeat("a.", 63) + "aa", strings.Repeat(strings.Repeat("a", 31)+".", 3) + strings.Repeat("b", 32), strings.Repeat("\u00e9.", 42) + "ab"}
}

// placesOfNames tells rows by the rule that they go by, with a sign ? at a place where the grammar asks for a name, be it long (LONG) or not (NAME).
func placesOfNames() []struct{ rule, asked, row string } {
	return []struct{ rule, asked, row string }{
		{"TYPE", "LONG", "?"}, {"TYPE", "LONG", "? -> int"}, {"TYPE", "LONG", "? * int"}, {"TYPE", "LONG", "( ? )"}, {"TYPE", "LONG", "( ( ? ) ) -> u"},
		{"TYPE", "LONG", "int -> ?"}, {"TYPE", "LONG", "int -> bool -> ?"}, {"TYPE", "LONG", "int * ?"}, {"TYPE", "LONG", "t.u * ? * bool -> int"}, {"TYPE", "LONG", "int * ( int -> ? )"},
		{"TYPE", "NAME", "mu ? { A of int }"}, {"TYPE", "NAME", "int -> mu ? { A of t | B of t }"}, {"TYPE", "NAME", "mu t { A of mu ? { A of int } }"},
		{"TYPE", "NAME", "mu t { ? of int }"}, {"TYPE", "NAME", "mu t { A of int | ? of int }"}, {"TYPE", "NAME", "mu t { A of int | ? of t | C of t }"}, {"TYPE", "NAME", "mu t { A of mu t { A of int | ? of int } | C of int }"},
		{"TYPE", "LONG", "mu t { A of ? }"}, {"TYPE", "LONG", "mu t { A of int | B of t -> ? * t }"},
		{"CONS", "NAME", "? of int"}, {"CONS", "NAME", "? of int | B of int"}, {"CONS", "NAME", "A of int | ? of int"}, {"CONS", "NAME", "A of int | B of int | ? of int | D of int"}, {"CONS", "NAME", "A of int | B of mu ? { A of int }"},
		{"CONS", "LONG", "A of ?"}, {"CONS", "LONG", "A of ? | B of int"}, {"CONS", "LONG", "A of int | B of ( ? * t )"},
	}
}

// placed tells a row's tokens, with a token of a name's kind and of a text at its place, and that place.
func placed(row, text string) ([]api.Token, int) {
	l := tokensOf(row)
	i := slices.IndexFunc(l, func(t api.Token) bool { return t.Text == "?" })
	l[i] = api.Token{Kind: api.TkName, Text: text}
	return l, i
}

func TestNoNameWhereOneIsAsked(t *testing.T) {
	for _, x := range placesOfNames() {
		for _, s := range textsOfNoName() {
			l, at := placed(x.row, s)
			refuses(t, x.rule, l, 0, at, api.ErrParse)
			refuses(t, x.rule, l[:at+1], 0, at, api.ErrParse)
			refuses(t, x.rule, append(make([]api.Token, 3), l...), 3, at+3, api.ErrParse)
		}
		if x.asked == "NAME" {
			for _, s := range textsOfSeveral() {
				l, at := placed(x.row, s)
				refuses(t, x.rule, l, 0, at, api.ErrParse)
			}
		}
	}
	refuses(t, "TYPE", []api.Token{{}, {}, {Kind: api.TkName}}, 2, 2, api.ErrParse)
	refuses(t, "CONS", []api.Token{{}, {}, {Kind: api.TkName}}, 2, 2, api.ErrParse)
}

func TestNamesWhereTheyAreAsked(t *testing.T) {
	for _, x := range placesOfNames() {
		names := textsOfNames()
		if x.asked == "LONG" {
			names = append(names, textsOfSeveral()...)
		}
		plain, _ := placed(x.row, "anyone")
		for _, s := range names {
			l, _ := placed(x.row, s)
			want := oracle(x.rule, plain, 0)
			for i := range want.trees {
				want.trees[i] = strings.ReplaceAll(want.trees[i], strconv.Quote("anyone"), strconv.Quote(s))
			}
			if got := rules()[x.rule](l, 0); !got.same(want) || got.next != len(l) || got.e != api.OK {
				t.Errorf("%q, with %q: %s", x.row, s, got.shown())
			}
		}
	}
}

// What is a type, or constructors, ends ahead of a token that is no name, as it does ahead of one that is.
func TestNoNameBehindAWhole(t *testing.T) {
	for _, s := range append(textsOfNoName(), "a", "a.b") {
		token := api.Token{Kind: api.TkName, Text: s}
		for _, row := range []string{"int", "t.u", "( int )", "int -> t", "mu t { A of int }"} {
			l := append(tokensOf(row), token, token)
			if n, next, e := ptype.Type(l, 0); text(n) != typeText(l[:len(l)-2]) || next != len(l)-2 || e != api.OK {
				t.Errorf("%q, and %.40q: %s, %d, %d", row, s, text(n), next, int(e))
			}
		}
		l := append(tokensOf("A of int | B of t"), token, token)
		if cons, next, e := ptype.Cons(l, 0); len(cons) != 2 || next != 7 || e != api.OK {
			t.Errorf("%.40q: %q, %d, %d", s, texts(cons), next, int(e))
		}
		for _, row := range []string{"( int", "mu t", "mu t { A", "mu t { A of int"} {
			l := append(tokensOf(row), token)
			refuses(t, "TYPE", l, 0, len(l)-1, api.ErrParse)
		}
	}
}

// A constructor's name that is none stands nowhere twice; behind it nothing is met any more.
func TestNoNameTwice(t *testing.T) {
	for _, s := range textsOfNoName() {
		l := tokensOf("A of int | B of int | A of int")
		l[4].Text = s
		refuses(t, "CONS", l, 0, 4, api.ErrParse)
		l[8].Text = s
		refuses(t, "CONS", l, 0, 4, api.ErrParse)
		l[0].Text = s
		refuses(t, "CONS", l, 0, 0, api.ErrParse)
		l[0].Text, l[4].Text, l[8].Text = "A", "A", s
		refuses(t, "CONS", l, 0, 4, api.ErrTwice)
		l[4].Text = "B"
		refuses(t, "CONS", l, 0, 8, api.ErrParse)
	}
}

// What is parsed of any tokens is a type by layer 5, and can be written.
func TestWhatIsParsedIsAType(t *testing.T) {
	tokens := tokensOf("int t t.u -> ( ) mu { } | of")
	for _, s := range []string{"", "int", "a.", "7"} {
		tokens = append(tokens, api.Token{Kind: api.TkName, Text: s})
	}
	parsed := 0
	eachRow("TYPE", 7, tokens, func(row []api.Token) {
		n, next, e := ptype.Type(row, 0)
		if e != api.OK {
			return
		}
		parsed++
		if e := shape.Type(n); e != api.OK {
			t.Fatalf("%q: %s, %d: %d", shown(row), text(n), next, int(e))
		}
	})
	if parsed < 500 {
		t.Error(parsed)
	}
}

// P6.1, held against the oracle.

// eachRow hands on each row with which a rule goes on, with one token more: up to most in all.
func eachRow(rule string, most int, tokens []api.Token, f func(row []api.Token)) {
	table := grammar()
	var grow func(row []api.Token, symbols string)
	grow = func(row []api.Token, symbols string) {
		for _, x := range tokens {
			longer := append(slices.Clone(row), x)
			f(longer)
			if more := behind(table, symbols, x); len(more) > 0 && len(longer) < most {
				grow(longer, more[0])
			}
		}
	}
	f(nil)
	grow(nil, rule)
}

func TestAllShortRows(t *testing.T) {
	tokens := tokensOf("int t t.u -> * ( ) mu { } | of fn 7 unit")
	tokens = append(tokens, api.Token{Kind: 9, Text: "int"}, api.Token{Kind: api.TkName, Text: "("}, api.Token{Kind: api.TkName}, api.Token{Kind: api.TkKey, Text: "t"})
	eachRow("TYPE", 6, tokens, func(row []api.Token) { agreesAt(t, row, 0) })
	eachRow("CONS", 6, tokens, func(row []api.Token) { agreesAt(t, row, 0) })
	eachRow("CONS", 12, tokensOf("int A | of )"), func(row []api.Token) { agreesAt(t, row, 0) })
	eachRow("CONS", 16, tokensOf("A B | of mu { }"), func(row []api.Token) {
		if len(row) > 9 && row[2].Text == "mu" {
			agreesAt(t, row, 0)
		}
	})
	eachRow("TYPE", 11, tokensOf("int -> * ( )"), func(row []api.Token) { agreesAt(t, row, 0) })
}

// Of rows in which all rules stand: each token is left out, doubled, and has each other one ahead of it, or in its place.
func TestAWrongTokenAtEachPlace(t *testing.T) {
	others := tokensOf("int t t.u A B -> * ( ) mu { } | of = 7")
	for _, s := range []string{
		"( int -> t.u ) * mu t { A of int * t | B of ( bool -> mu u { A of unit | B of u } ) -> t | C of t } -> unit",
		"A of int * ( t -> int ) | B of mu A { A of A | C of ( t.u ) * bool } | C of bool -> t -> t",
	} {
		l := tokensOf(s)
		agrees(t, l)
		for i := range l {
			agrees(t, l[:i])
			agrees(t, slices.Delete(slices.Clone(l), i, i+1))
			agrees(t, slices.Insert(slices.Clone(l), i, l[i]))
			for _, x := range others {
				agrees(t, slices.Insert(slices.Clone(l), i, x))
				other := slices.Clone(l)
				other[i] = x
				agrees(t, other)
			}
		}
	}
}

// P6.1: many tokens, and many above one another.

func tokensOfMany(n int, row string) []api.Token { return slices.Repeat(tokensOf(row), n) }

func TestLongRows(t *testing.T) {
	many := 1 << 17
	for _, sign := range []string{"->", "*"} {
		l := append(tokensOfMany(many, "t "+sign), tokensOf("int )")...)
		n, next, e := ptype.Type(l, 0)
		if e != api.OK || next != len(l)-1 {
			t.Fatal(next, int(e))
		}
		for range many {
			if len(n.Kids) != 2 || n.Kids[0].Name != "t" {
				t.Fatal(n)
			}
			n = n.Kids[1]
		}
		if n.Kind != api.TInt {
			t.Error(n)
		}
		refuses(t, "TYPE", l[:len(l)-2], 0, len(l)-2, api.ErrParse)
	}
}

func TestManyConstructors(t *testing.T) {
	var l []api.Token
	for i := range 1 << 16 {
		l = append(l, tokensOf("A"+strconv.Itoa(i)+" of int |")...)
	}
	cons, next, e := ptype.Cons(l[:len(l)-1], 0)
	if len(cons) != 1<<16 || cons[65535].Name != "A65535" || next != len(l)-1 || e != api.OK {
		t.Error(len(cons), next, int(e))
	}
	refuses(t, "CONS", append(l, tokensOf("A40000 of")...), 0, len(l), api.ErrTwice)
}

func TestDeepRows(t *testing.T) {
	many := 1 << 16
	for _, x := range []struct{ opening, closing string }{{"(", ")"}, {"t -> (", ")"}, {"t * (", ") -> t"}, {"mu t { A of", "}"}, {"( mu t { A of int * t | B of", "} )"}} {
		opening, closing := tokensOfMany(many, x.opening), tokensOfMany(many, x.closing)
		l := slices.Concat(opening, tokensOf("int"), closing, tokensOf(")"))
		if n, next, e := ptype.Type(l, 0); n == nil || next != len(l)-1 || e != api.OK {
			t.Error(x, next, int(e))
		}
		refuses(t, "TYPE", opening, 0, len(opening), api.ErrParse)
		refuses(t, "TYPE", l[:len(l)-2], 0, len(l)-2, api.ErrParse)
	}
}

// P6.2.

func TestKeyNameLong(t *testing.T) {
	texts := []string{"int", "mu", "(", "->", "t", "t'", "a.b", "a.b.c", "7", "~7", "", ".", "a.", "\u00e9", "\xff", "val"}
	for _, kind := range append(kindsOfNone(), api.TkName, api.TkInt, api.TkKey) {
		for _, s := range texts {
			l := slices.Repeat([]api.Token{{Kind: kind, Text: s, N: 3, At: 5}}, 2)
			for _, i := range []int{0, 1, 2, 3, -1, -2, math.MinInt, math.MaxInt, 1 << 32, -1 << 32} {
				there := i == 0 || i == 1
				for _, asked := range texts {
					if is := ptype.Key(l, i, asked); is != (there && kind == api.TkKey && asked == s) {
						t.Errorf("Key(%d %q, %d, %q) = %t", kind, s, i, asked, is)
					}
				}
				isText(t, ptype.Long, l, i, there && kind == api.TkName && namesIn(s) > 0)
				isText(t, ptype.Name, l, i, there && kind == api.TkName && namesIn(s) == 1)
			}
		}
	}
	for _, l := range [][]api.Token{nil, {}, tokensOf("int x")[:0]} {
		for _, i := range []int{0, 1, -1} {
			if ptype.Key(l, i, "int") || ptype.Key(l, i, "") {
				t.Error(i)
			}
			isText(t, ptype.Name, l, i, false)
			isText(t, ptype.Long, l, i, false)
		}
	}
}

func TestNamesAndTextsThatAreNone(t *testing.T) {
	ask := func(s string, name, long bool) {
		t.Helper()
		for _, ahead := range []int{0, 2} {
			l := slices.Repeat([]api.Token{{Kind: api.TkName, Text: s, At: 5}}, 2+ahead)
			isText(t, ptype.Name, l, ahead, name)
			isText(t, ptype.Long, l, ahead, long)
		}
	}
	for _, s := range textsOfNoName() {
		ask(s, false, false)
	}
	for _, s := range textsOfNames() {
		ask(s, true, true)
	}
	for _, s := range textsOfSeveral() {
		ask(s, false, true)
	}
}

// Just what the lexer tells as one TkName is one, and its text is that one's.
func TestTextsAreNamesAsTheyAreLexed(t *testing.T) {
	for _, s := range slices.Concat(textsOfNoName(), textsOfNames(), textsOfSeveral()) {
		lexed, _, _ := lexer.Lex(s)
		is := len(lexed) == 1 && lexed[0].Kind == api.TkName && lexed[0].Text == s
		isText(t, ptype.Long, []api.Token{{Kind: api.TkName, Text: s}}, 0, is)
	}
}

// isText asks for the text of one of a list's first two tokens, which are alike, or for none.
func isText(t *testing.T, ask func(l []api.Token, i int) (string, bool), l []api.Token, i int, want bool) {
	t.Helper()
	s, is := ask(l, i)
	if is != want || is && s != l[0].Text || !is && s != "" {
		t.Errorf("%q at %d: %q, %t", shown(l), i, s, is)
	}
}

// P6.3, P6.4.

// writes asks for a type's text, and for the type of its tokens.
func writes(t *testing.T, n *api.Node, want string) {
	t.Helper()
	s, e := ptype.Write(n)
	if s != want || e != api.OK {
		t.Fatalf("%.200s: %.200q, %d, not %.200q", text(n), s, int(e), want)
	}
	again(t, n, s)
}

// again asks that what was written is lexed and parsed as it was, whole.
func again(t *testing.T, n *api.Node, s string) {
	t.Helper()
	l := tokensOf(s)
	if len(s) <= api.MaxSource {
		lexed, _, e := lexer.Lex(s)
		if shown(lexed) != s || e != api.OK {
			t.Fatalf("%.200q is lexed as %.200q, %d", s, shown(lexed), int(e))
		}
		l = lexed
	}
	if got, next, e := ptype.Type(l, 0); e != api.OK || next != len(l) || text(got) != text(n) {
		t.Fatalf("%.200q: %.200s, %d, %d", s, text(got), next, int(e))
	}
}

func TestEachFormIsWritten(t *testing.T) {
	i, b, u := leaf(api.TInt), leaf(api.TBool), leaf(api.TUnit)
	mu := node(api.TMu, "t", con("A", i))
	for want, n := range map[string]*api.Node{
		"int": i, "bool": b, "unit": u, "t": name("t"), "a.b.t'": name("a.b.t'"), "\u00e9.vals": name("\u00e9.vals"),
		"int -> bool": arrow(i, b), "int -> bool -> unit": arrow(i, arrow(b, u)), "( int -> bool ) -> unit": arrow(arrow(i, b), u), "( ( int -> bool ) -> unit ) -> t": arrow(arrow(arrow(i, b), u), name("t")), "( int -> bool ) -> unit -> t": arrow(arrow(i, b), arrow(u, name("t"))),
		"int * bool": pair(i, b), "int * bool * unit": pair(i, pair(b, u)), "( int * bool ) * unit": pair(pair(i, b), u), "( ( int * bool ) * unit ) * t": pair(pair(pair(i, b), u), name("t")), "( int * bool ) * unit * t": pair(pair(i, b), pair(u, name("t"))),
		"int * bool -> unit": arrow(pair(i, b), u), "int -> bool * unit": arrow(i, pair(b, u)), "( int -> bool ) * unit": pair(arrow(i, b), u), "int * ( bool -> unit )": pair(i, arrow(b, u)), "int * ( int -> bool ) * unit": pair(i, pair(arrow(i, b), u)), "( int * bool -> unit ) -> int * ( unit -> bool )": arrow(arrow(pair(i, b), u), pair(i, arrow(u, b))),
		"mu t { A of int }": mu, "mu t { A of int } -> mu t { A of int } * mu t { A of int }": arrow(mu, pair(mu, mu)), "mu t { A of t | B of int -> int | C of int * t }": node(api.TMu, "t", con("A", name("t")), con("B", arrow(i, i)), con("C", pair(i, name("t")))),
		"mu t { A of mu t { A of int } | B of ( int -> int ) * mu t { A of int } }": node(api.TMu, "t", con("A", mu), con("B", pair(arrow(i, i), mu))), "( int -> mu t { A of int } ) -> int": arrow(arrow(i, mu), i),
	} {
		writes(t, n, want)
	}
}

// typesOf tells all types of up to size nodes that are made of the leaves.
func typesOf(size int, leaves ...*api.Node) []*api.Node {
	all := [][]*api.Node{nil, leaves}
	for n := 2; n <= size; n++ {
		var l []*api.Node
		for a := 1; a+1 < n; a++ {
			for _, x := range all[a] {
				for _, y := range all[n-1-a] {
					l = append(l, arrow(x, y), pair(x, y))
				}
			}
		}
		if n >= 3 {
			for _, x := range all[n-2] {
				l = append(l, node(api.TMu, "t", con("A", x)))
			}
		}
		for a := 1; a+3 < n; a++ {
			for _, x := range all[a] {
				for _, y := range all[n-3-a] {
					l = append(l, node(api.TMu, "u", con("B", x), con("A", y)))
				}
			}
		}
		all = append(all, l)
	}
	return slices.Concat(all...)
}

func TestJustTheSignsThatTheGrammarNeeds(t *testing.T) {
	l := slices.Concat(typesOf(9, leaf(api.TInt)), typesOf(5, leaf(api.TBool), leaf(api.TUnit), name("t"), name("a.b")))
	for _, n := range l {
		want, many := shortest(n)
		if many != 1 {
			t.Fatal(text(n), many)
		}
		writes(t, n, want)
	}
	if len(l) < 1500 {
		t.Error(len(l))
	}
}

// chain puts n nodes on top of a tree: each has the one below as its kid at a place.
func chain(n int, top *api.Node, at int, low *api.Node) *api.Node {
	for range n {
		x := *top
		x.Kids = slices.Clone(top.Kids)
		x.Kids[at] = low
		low = &x
	}
	return low
}

// deepTypes tells types of n nodes above one another, of each form that has kids; n has to be even for mu alone.
func deepTypes(n int) []*api.Node {
	i, t := leaf(api.TInt), name("t")
	mu := t
	for range n/2 - 1 {
		mu = node(api.TMu, "t", con("A", mu), con("B", i))
	}
	if n%2 == 0 {
		mu = arrow(mu, i)
	}
	return []*api.Node{
		chain(n-1, arrow(i, t), 0, i), chain(n-1, arrow(i, t), 1, i), chain(n-1, pair(i, t), 0, i), chain(n-1, pair(i, t), 1, i), mu,
		chain(n/2, arrow(t, i), 1, chain(n-n/2-1, pair(t, i), 0, i)), chain(n/2, pair(t, i), 0, chain(n-n/2-1, arrow(t, i), 1, i)),
	}
}

func TestTypesAtTheLimits(t *testing.T) {
	for _, n := range []int{58, 59, 60} {
		for _, x := range deepTypes(n) {
			if s, e := ptype.Write(x); e == api.OK {
				again(t, x, s)
			} else {
				t.Error(n, int(e))
			}
		}
	}
	writes(t, chain(59, pair(leaf(api.TInt), name("t")), 0, name("u")), strings.Repeat("( ", 58)+"u * t"+strings.Repeat(" ) * t", 58))
	writes(t, chain(59, arrow(name("t"), leaf(api.TInt)), 1, name("u")), strings.Repeat("t -> ", 59)+"u")
	for _, n := range []int{61, 62, 64, 127, 1000} {
		for _, x := range deepTypes(n)[:4] {
			isNoType(t, x, api.ErrDeep)
		}
	}
	long := strings.Repeat("abcdefg.", 15) + "abcdefgh"
	writes(t, name(long), long)
	isNoType(t, name(long+"i"), api.ErrForm)
	writes(t, node(api.TMu, long[:7]+strings.Repeat("a", 25), con(strings.Repeat("b", 32), name(long))), "mu abcdefg"+strings.Repeat("a", 25)+" { "+strings.Repeat("b", 32)+" of "+long+" }")
	isNoType(t, node(api.TMu, strings.Repeat("a", 33), con("A", leaf(api.TInt))), api.ErrForm)
	isNoType(t, node(api.TMu, "t", con(strings.Repeat("a", 33), leaf(api.TInt))), api.ErrForm)
}

// largeMu tells a type of n nodes, if n is odd, and its text.
func largeMu(n int, long string) (*api.Node, string) {
	mu := node(api.TMu, "t")
	var texts []string
	for i := range n / 2 {
		mu.Kids = append(mu.Kids, con("A"+strconv.Itoa(i), name(long)))
		texts = append(texts, "A"+strconv.Itoa(i)+" of "+long)
	}
	return mu, "mu t { " + strings.Join(texts, " | ") + " }"
}

func TestTheMostNodes(t *testing.T) {
	for _, long := range []string{"t", strings.Repeat("abcdefg.", 15) + "abcdefgh"} {
		for _, n := range []int{8189, 8191} {
			mu, want := largeMu(n, long)
			writes(t, mu, want)
		}
		mu, _ := largeMu(8193, long)
		isNoType(t, mu, api.ErrLong)
	}
	full := name("t")
	for range 12 {
		full = pair(full, full)
	}
	if s, e := ptype.Write(full); e == api.OK && strings.Count(s, "t") == 4096 && strings.Count(s, "(") == 2047 {
		again(t, full, s)
	} else {
		t.Error(len(s), int(e))
	}
	isNoType(t, pair(full, full), api.ErrLong)
	isNoType(t, chain(1<<16, arrow(name("t"), name("t")), 1, name("t")), api.ErrLong)
}

// isNoType asks that a tree is not written.
func isNoType(t *testing.T, n *api.Node, want api.Errno) {
	t.Helper()
	if s, e := ptype.Write(n); s != "" || e != want {
		t.Errorf("%.200q, %d, not %d", s, int(e), int(want))
	}
}

func TestTreesThatAreNoTypesAreNotWritten(t *testing.T) {
	i := leaf(api.TInt)
	for _, n := range []*api.Node{nil, tree(api.TArrow, i, nil), tree(api.TPair, nil, i), tree(api.TInt, nil), node(api.TMu, "t", nil), node(api.TMu, "t", con("A", nil)), tree(api.EUnit, nil)} {
		isNoType(t, n, api.ErrNil)
	}
	for _, n := range []*api.Node{
		leaf(0), leaf(-1), leaf(99), leaf(math.MinInt), leaf(math.MaxInt), leaf(1<<32 + api.TInt), leaf(api.EUnit), leaf(api.MStruct), leaf(api.SBody), leaf(api.Prog), leaf(api.CInt), node(api.PType, "t"), node(api.DType, "t", i), node(api.EVar, "x"),
		con("A", i), arrow(i, con("A", i)), leaf(api.TArrow), tree(api.TArrow, i), tree(api.TPair, i, i, i), tree(api.TInt, i), node(api.TInt, "t"), node(api.TPair, "t", i, i), {Kind: api.TInt, N: 1}, {Kind: api.TName, Name: "t", Mark: "u"}, {Kind: api.TName, Name: "t", N: -1}, node(api.TName, "t", i),
		node(api.TMu, "t"), node(api.TMu, "t", i), node(api.TMu, "a.b", con("A", i)), node(api.TMu, "", con("A", i)), node(api.TMu, "t", con("A.B", i)), node(api.TMu, "t", con("", i)), node(api.TMu, "t", node(api.TCon, "A")), node(api.TMu, "t", node(api.TCon, "A", i, i)),
		node(api.TMu, "t", con("A", i), con("A", i)), node(api.TMu, "t", con("A", i), con("B", i), con("A", leaf(api.TBool))), arrow(i, node(api.TMu, "t", con("A", node(api.TMu, "t", con("B", i), con("B", i))))),
		name(""), name("."), name("a."), name("7"), name("a b"), name("\xff"), name("->"), pair(i, leaf(0)),
	} {
		isNoType(t, n, api.ErrForm)
	}
	for _, s := range strings.Fields(keys)[17:] {
		for _, n := range []*api.Node{name(s), name("a." + s), name(s + ".a"), node(api.TMu, s, con("A", i)), node(api.TMu, "t", con(s, i))} {
			isNoType(t, n, api.ErrForm)
		}
		writes(t, name(s+"'."+s+"1"), s+"'."+s+"1")
	}
}

// Of trees that lie in themselves no more is promised than that the call ends.
func TestWriteEndsOnTreesThatLieInThemselves(t *testing.T) {
	n := pair(leaf(api.TInt), nil)
	n.Kids[1] = n
	isNoType(t, n, api.ErrLong)
}

// Rule 4.

// Behind a list's length stand tokens that would go on, or name a constructor again.
func TestTokensStayAsTheyWere(t *testing.T) {
	for _, s := range []string{"int -> bool * ( mu t { A of int | B of t } ) -> u", "A of int | B of mu t { C of t } * t | A of int", "A of int | B of bool -> t | C of int", "( ( (", "mu t { A of", "7 x"} {
		l := tokensOf(s)
		kept := slices.Clone(l)
		for n := range len(l) + 1 {
			for i := -1; i <= n+1; i++ {
				for rule, ask := range rules() {
					first := ask(l[:n], i)
					if want := oracle(rule, slices.Clone(l[:n]), i); !first.same(want) || !first.same(ask(l[:n], i)) {
						t.Errorf("%s of %q at %d: %s, not %s", rule, shown(l[:n]), i, first.shown(), want.shown())
					}
				}
				ptype.Key(l[:n], i, "int")
				ptype.Name(l[:n], i)
				ptype.Long(l[:n], i)
			}
		}
		if !slices.Equal(l, kept) {
			t.Errorf("%q became %q", s, shown(l))
		}
	}
}

// What is made of a list stays as it was when the list is changed.
func TestTreesKeepNoTokens(t *testing.T) {
	l := tokensOf("mu t { A of int | B of t.u -> t } * int")
	n, _, _ := ptype.Type(l, 0)
	was := text(n)
	clear(l)
	if text(n) != was {
		t.Error(text(n))
	}
}

// Two answers, and two places of one, have no node and no list in common.
func TestAnswersAreNew(t *testing.T) {
	l := tokensOf("mu t { A of int | B of int * int } -> ( int * int ) * int -> t * t")
	a, _, _ := ptype.Type(l, 0)
	b, _, _ := ptype.Type(l, 0)
	met := map[*api.Node]bool{}
	var walk func(n *api.Node)
	walk = func(n *api.Node) {
		if met[n] {
			t.Error(text(n))
		}
		met[n] = true
		for _, kid := range n.Kids {
			walk(kid)
		}
	}
	walk(a)
	walk(b)
	for n := range met {
		_ = append(n.Kids, leaf(99))
	}
	if text(a) != typeText(l) || text(b) != typeText(l) {
		t.Error(text(a), text(b))
	}
}

func TestTypesStayAsTheyWere(t *testing.T) {
	for _, n := range append(typesOf(5, leaf(api.TInt), name("t")), con("A", leaf(api.TInt)), pair(leaf(0), leaf(api.TInt)), chain(70, pair(leaf(api.TInt), name("t")), 0, name("t"))) {
		spare := spared(n)
		was := text(n)
		first, e := ptype.Write(spare)
		s, f := ptype.Write(spare)
		if s != first || f != e || text(spare) != was || !sparedStill(spare) {
			t.Error(was, s, first)
		}
	}
}

// spared tells a tree that is the same, in which each list of kids has something behind its length.
func spared(n *api.Node) *api.Node {
	x := *n
	x.Kids = nil
	for _, kid := range n.Kids {
		x.Kids = append(x.Kids, spared(kid))
	}
	x.Kids = append(x.Kids, leaf(99), nil)[:len(n.Kids)]
	return &x
}

func sparedStill(n *api.Node) bool {
	behind := n.Kids[len(n.Kids) : len(n.Kids)+2]
	return behind[0].Kind == 99 && behind[1] == nil && !slices.ContainsFunc(n.Kids, func(kid *api.Node) bool { return !sparedStill(kid) })
}
