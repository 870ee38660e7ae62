package pmod_test

import (
	"slices"
	"strings"
	"testing"

	"marquetry/api"
	"marquetry/pmod"
	"marquetry/shape"
)

// rows_test.go asks of many rows, which the oracle knows, of long and deep ones, and of what is handed in and out.

// eachRow hands on each row with which a rule goes on, with one token more: up to most in all.
func eachRow(rule string, most int, tokens []api.Token, f func(row []api.Token)) {
	table := grammar()
	var grow func(row []api.Token, rows []string)
	grow = func(row []api.Token, rows []string) {
		for _, x := range tokens {
			longer := append(slices.Clone(row), x)
			f(longer)
			if next := behindAll(table, rows, x); len(next) > 0 && len(longer) < most {
				grow(longer, next)
			}
		}
	}
	f(nil)
	grow(nil, []string{rule})
}

func TestAllShortRows(t *testing.T) {
	odd := []api.Token{{Kind: 9, Text: "("}, {Kind: api.TkName, Text: "struct"}, {Kind: api.TkName}, {Kind: api.TkKey, Text: "X"}}
	all := append(tokensOf("X X.Y 7 ( ) : :> = struct end sig where type val datatype structure signature functor open include sharing of | -> int"), odd...)
	for _, rule := range everyRule() {
		at := func(row []api.Token) { agreesAt(t, rule, row, 0) }
		eachRow(rule, 5, all, at)
		eachRow(rule, 8, tokensOf("X type = int sig end"), at)
		eachRow(rule, 7, tokensOf("X X.Y open include val = struct end"), at)
		eachRow(rule, 9, tokensOf("X structure signature = :"), at)
		eachRow(rule, 12, tokensOf("X Y datatype = of |"), at)
	}
	for rule, rows := range map[string][]struct {
		most   int
		tokens string
	}{
		"MOD":  {{9, "X X.Y ( ) : :>"}, {9, "X : sig end :>"}, {10, "X ( ) struct end"}, {13, "X : where type = int"}, {11, "X struct structure = ( ) end"}},
		"SIG":  {{9, "X sig end include"}, {13, "X where type = X.Y"}, {10, "X sig sharing type = X.Y end"}, {11, "X sig structure : end"}, {9, "X sig type = val : int end"}},
		"TOPS": {{12, "X functor ( : ) ="}, {8, "X signature = sig end functor"}, {9, "X structure = struct end open"}},
	} {
		for _, x := range rows {
			eachRow(rule, x.most, tokensOf(x.tokens), func(row []api.Token) { agreesAt(t, rule, row, 0) })
		}
	}
}

// richRows are rows in which all rules stand.
func richRows() map[string]string {
	return map[string]string{
		"MOD":   "struct val x : int * t = f ( y , 7 ) val y = a = b type t = M.t -> int datatype d = A of int | B of d structure N = F ( M : S ) :> sig type t end open N.O include M structure O = ( struct end : S where type X.t = u where type v = int ) end :> T : S",
		"SIG":   "sig val x : int -> t type t type u = mu v { A of int } datatype d = A of unit | B of int * d structure X : sig end structure Y : S where type t = X.u include S where type t = int sharing type t = X.u end where type X.t = ( u ) where type t = int",
		"DECLS": "open M val x = let y = 7 in y end structure A = struct include M.N datatype t = A of int end type t = A.t val z : t = case x of A y => y | B z => 7 end structure B = F ( G ( A :> S ) ) : S",
		"TOPS":  "signature S = sig type t val x : t end where type t = int functor F ( X : S where type t = u ) = struct open X end :> T structure M = F ( M ) signature T = S functor G ( F : sig structure X : S end ) = F val x = M.x",
	}
}

// Each token is left out, doubled, and has each other one ahead of it, or in its place.
func TestAWrongTokenAtEachPlace(t *testing.T) {
	others := tokensOf("X X.Y 7 ( ) { } , : :> = -> * | => struct end sig where type val datatype structure signature functor open include sharing of int mu fn let")
	for rule, s := range richRows() {
		l := tokensOf(s)
		agrees(t, l)
		for i := range l {
			agrees(t, l[:i])
			agreesAt(t, rule, slices.Delete(slices.Clone(l), i, i+1), 0)
			agreesAt(t, rule, slices.Insert(slices.Clone(l), i, l[i]), 0)
			for _, x := range others {
				agreesAt(t, rule, slices.Insert(slices.Clone(l), i, x), 0)
				other := slices.Clone(l)
				other[i] = x
				agreesAt(t, rule, other, 0)
			}
		}
	}
}

// What is parsed of any tokens has its form by layer 5.
func TestWhatIsParsedHasAForm(t *testing.T) {
	tokens := tokensOf("X X.Y ( ) : = struct end sig type structure signature functor open val 7 where")
	for _, s := range []string{"", "int", "a.", "7"} {
		tokens = append(tokens, api.Token{Kind: api.TkName, Text: s})
	}
	parsed := 0
	has := func(form func(n *api.Node) api.Errno, l ...*api.Node) {
		for _, n := range l {
			if e := form(n); e != api.OK {
				t.Fatal(text(n), int(e))
			}
		}
		parsed++
	}
	for rule, most := range map[string]int{"MOD": 6, "SIG": 6, "DECLS": 6, "TOPS": 6} {
		eachRow(rule, most, tokens, func(row []api.Token) {
			switch rule {
			case "MOD":
				if n, _, e := pmod.Mod(row, 0); e == api.OK {
					has(shape.Mod, n)
				}
			case "SIG":
				if n, _, e := pmod.Sig(row, 0); e == api.OK {
					has(shape.Sig, n)
				}
			case "DECLS":
				if l, _, e := pmod.Decls(row, 0, false); e == api.OK {
					has(shape.Mod, str(l...))
				}
			default:
				if l, _, e := pmod.Decls(row, 0, true); e == api.OK {
					has(shape.Prog, tree(api.Prog, l...))
				}
			}
		})
	}
	if parsed < 1000 {
		t.Error(parsed)
	}
}

// P8.1: many tokens, and many above one another. These calls know no limit of layer 5.

func tokensOfMany(n int, row string) []api.Token { return slices.Repeat(tokensOf(row), n) }

func TestLongRows(t *testing.T) {
	const many = 1 << 17
	l := append(tokensOf("M"), tokensOfMany(many, ": S :> T")...)
	n, next, e := pmod.Mod(l, 0)
	if e != api.OK || next != len(l) {
		t.Fatal(next, int(e))
	}
	for i := range 2 * many {
		if n.Kind != api.MSeal || n.N != 1-i%2 || len(n.Kids) != 2 {
			t.Fatal(i, n)
		}
		n = n.Kids[0]
	}
	refuses(t, "MOD", l[:len(l)-1], 0, len(l)-1, api.ErrParse)
	l = append(tokensOf("S"), tokensOfMany(many, "where type t = int")...)
	s, next, e := pmod.Sig(l, 0)
	if e != api.OK || next != len(l) {
		t.Fatal(next, int(e))
	}
	for range many {
		if s.Kind != api.SWhere || s.Name != "t" || len(s.Kids) != 2 {
			t.Fatal(s)
		}
		s = s.Kids[0]
	}
	refuses(t, "SIG", l[:len(l)-1], 0, len(l)-1, api.ErrParse)
}

func TestManyDeclarations(t *testing.T) {
	const many = 1 << 17
	l := tokensOfMany(many, "open M val x = 7")
	for _, top := range []bool{true, false} {
		if n, next, e := pmod.Decls(l, 0, top); len(n) != 2*many || next != len(l) || e != api.OK {
			t.Error(len(n), next, int(e))
		}
	}
	if n, next, e := pmod.Mod(slices.Concat(tokensOf("struct"), l, tokensOf("end end")), 0); e != api.OK || next != len(l)+2 || len(n.Kids) != 2*many {
		t.Error(next, int(e))
	}
	refuses(t, "TOPS", l[:len(l)-1], 0, len(l)-1, api.ErrParse)
	specs := tokensOfMany(many, "type t val x : int")
	if n, next, e := pmod.Sig(slices.Concat(tokensOf("sig"), specs, tokensOf("end end")), 0); e != api.OK || next != len(specs)+2 || len(n.Kids) != 2*many {
		t.Error(next, int(e))
	}
}

func TestDeepRows(t *testing.T) {
	const many = 1 << 16
	for _, x := range []struct{ rule, opening, inner, closing string }{
		{"MOD", "(", "M", ")"}, {"MOD", "F (", "M", ")"}, {"MOD", "F (", "M", ": S )"}, {"MOD", "struct structure A =", "M", "end"}, {"MOD", "struct open M structure A =", "M", ": S open M end"},
		{"SIG", "sig structure X :", "S", "end"}, {"SIG", "sig include", "S", "type t end where type t = int"}, {"DECLS", "structure A = struct", "open M", "end"}, {"DECLS", "structure A = struct open M structure A = F ( struct", "", "end ) end"}, {"TOPS", "structure A = struct", "open M", "end :> S"},
	} {
		opening, closing := tokensOfMany(many, x.opening), tokensOfMany(many, x.closing)
		l := slices.Concat(opening, tokensOf(x.inner), closing, tokensOf("}"))
		next, e := whereItEnds(x.rule, l)
		if next != len(l)-1 || e != api.OK {
			t.Error(x, next, int(e))
		}
		for _, fewer := range []int{2, len(closing) + 1} {
			if next, e := whereItEnds(x.rule, l[:len(l)-fewer]); next != len(l)-fewer || e != api.ErrParse {
				t.Error(x, fewer, next, int(e))
			}
		}
	}
}

// whereItEnds asks without writing the trees, which would be long texts.
func whereItEnds(rule string, l []api.Token) (int, api.Errno) {
	var next int
	var e api.Errno
	switch rule {
	case "MOD":
		_, next, e = pmod.Mod(l, 0)
	case "SIG":
		_, next, e = pmod.Sig(l, 0)
	default:
		_, next, e = pmod.Decls(l, 0, rule == "TOPS")
	}
	return next, e
}

// Rule 4.

// Behind a list's length stand tokens that would go on.
func TestTokensStayAsTheyWere(t *testing.T) {
	for rule, s := range richRows() {
		l := tokensOf(s)
		kept := slices.Clone(l)
		for n := range len(l) + 1 {
			for _, i := range []int{-1, 0, 1, n / 2, n, n + 1} {
				first := asked(rule, l[:n], i)
				if want := oracle(rule, slices.Clone(l[:n]), i); first != want || first != asked(rule, l[:n], i) {
					t.Errorf("%q at %d: %s, not %s", shown(l[:n]), i, first.shown(), want.shown())
				}
			}
		}
		if !slices.Equal(l, kept) {
			t.Errorf("%q became %q", s, shown(l))
		}
	}
}

// What is made of a list stays as it was when the list is changed.
func TestTreesKeepNoTokens(t *testing.T) {
	for rule, s := range richRows() {
		l := tokensOf(s)
		trees := treesMade(rule, l)
		was := strings.Join(textsOf(trees), " ")
		clear(l)
		if strings.Join(textsOf(trees), " ") != was || was == "" {
			t.Error(rule)
		}
	}
}

func treesMade(rule string, l []api.Token) []*api.Node {
	switch rule {
	case "MOD":
		n, _, _ := pmod.Mod(l, 0)
		return []*api.Node{n}
	case "SIG":
		n, _, _ := pmod.Sig(l, 0)
		return []*api.Node{n}
	}
	trees, _, _ := pmod.Decls(l, 0, rule == "TOPS")
	return trees
}

// Two answers, and two places of one, have no node and no list in common.
func TestAnswersAreNew(t *testing.T) {
	for rule, s := range richRows() {
		l := tokensOf(s)
		a, b := treesMade(rule, l), treesMade(rule, l)
		met := map[*api.Node]bool{}
		var walk func(n *api.Node)
		walk = func(n *api.Node) {
			if met[n] {
				t.Error(text(n))
			}
			met[n] = true
			for _, kid := range n.Kids {
				walk(kid)
			}
		}
		for _, n := range slices.Concat(a, b) {
			walk(n)
		}
		for n := range met {
			_ = append(n.Kids, tree(99))
		}
		_, _ = append(a, tree(99)), append(b, tree(99))
		want := treesOf(rule, l)
		if strings.Join(textsOf(a), " ") != want || strings.Join(textsOf(b), " ") != want {
			t.Error(rule)
		}
	}
}
