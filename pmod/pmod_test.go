package pmod_test

import (
	"fmt"
	"math"
	"slices"
	"strconv"
	"strings"
	"testing"

	"marquetry/api"
	"marquetry/lexer"
	"marquetry/pmod"
)

// asked tells what the package answers of tokens by a rule: MOD, SIG, DECLS (those that may stand within a structure) or TOPS.
func asked(rule string, l []api.Token, i int) answer {
	switch rule {
	case "MOD":
		n, next, e := pmod.Mod(l, i)
		return answer{text(n), next, e}
	case "SIG":
		n, next, e := pmod.Sig(l, i)
		return answer{text(n), next, e}
	}
	n, next, e := pmod.Decls(l, i, rule == "TOPS")
	return answer{strings.Join(textsOf(n), " "), next, e}
}

func everyRule() []string { return []string{"MOD", "SIG", "DECLS", "TOPS"} }

func (a answer) shown() string {
	return fmt.Sprintf("%.400q, %d, %d", a.trees, a.next, int(a.e))
}

// agrees asks by each rule at each place of a list, and beyond, and the oracle.
func agrees(t *testing.T, l []api.Token) {
	t.Helper()
	for i := -1; i <= len(l)+1; i++ {
		for _, rule := range everyRule() {
			agreesAt(t, rule, l, i)
		}
	}
}

func agreesAt(t *testing.T, rule string, l []api.Token, i int) {
	t.Helper()
	if got, want := asked(rule, l, i), oracle(rule, l, i); got != want {
		t.Fatalf("%s of %.400q at %d: %s, not %s", rule, shown(l), i, got.shown(), want.shown())
	}
}

func shown(l []api.Token) string {
	var s []string
	for _, x := range l {
		s = append(s, x.Text)
	}
	return strings.Join(s, " ")
}

// tree, node and those behind them make nodes.
func tree(kind int, kids ...*api.Node) *api.Node { return &api.Node{Kind: kind, Kids: kids} }

func node(kind int, name string, kids ...*api.Node) *api.Node {
	return &api.Node{Kind: kind, Name: name, Kids: kids}
}

func v(name string) *api.Node     { return node(api.EVar, name) }
func num(n int) *api.Node         { return &api.Node{Kind: api.EInt, N: n} }
func tname(name string) *api.Node { return node(api.TName, name) }
func tint() *api.Node             { return tree(api.TInt) }

func arrow(a, b *api.Node) *api.Node   { return tree(api.TArrow, a, b) }
func product(a, b *api.Node) *api.Node { return tree(api.TPair, a, b) }
func eq(a, b *api.Node) *api.Node {
	return &api.Node{Kind: api.EOp, N: api.OpEq, Kids: []*api.Node{a, b}}
}

func con(name string, n *api.Node) *api.Node { return node(api.TCon, name, n) }
func arm(con, name string, body *api.Node) *api.Node {
	return &api.Node{Kind: api.EArm, Name: con, Mark: name, Kids: []*api.Node{body}}
}

func path(name string) *api.Node             { return node(api.MPath, name) }
func app(name string, m *api.Node) *api.Node { return node(api.MApp, name, m) }
func str(decls ...*api.Node) *api.Node       { return tree(api.MStruct, decls...) }

func seal(number int, m, s *api.Node) *api.Node {
	return &api.Node{Kind: api.MSeal, N: number, Kids: []*api.Node{m, s}}
}

func sname(name string) *api.Node       { return node(api.SName, name) }
func body(specs ...*api.Node) *api.Node { return tree(api.SBody, specs...) }

func where(name string, s, n *api.Node) *api.Node { return node(api.SWhere, name, s, n) }

func share(name, mark string) *api.Node { return &api.Node{Kind: api.PShare, Name: name, Mark: mark} }

func functor(name, mark string, s, m *api.Node) *api.Node {
	return &api.Node{Kind: api.DFunctor, Name: name, Mark: mark, Kids: []*api.Node{s, m}}
}

func structure(name string, m *api.Node) *api.Node { return node(api.DStruct, name, m) }

// parses asks for the trees and the place that a rule tells.
func parses(t *testing.T, rule, s string, at int, next int, want ...*api.Node) {
	t.Helper()
	if got := asked(rule, tokensOf(s), at); got != (answer{strings.Join(textsOf(want), " "), next, api.OK}) {
		t.Errorf("%s of %q at %d: %s, not %.400q, %d", rule, s, at, got.shown(), textsOf(want), next)
	}
}

// refuses asks for a rule's error and place.
func refuses(t *testing.T, rule string, l []api.Token, at, next int, e api.Errno) {
	t.Helper()
	if got := asked(rule, l, at); got != (answer{"", next, e}) {
		t.Errorf("%s of %.200q at %d: %s, not %d, %d", rule, shown(l), at, got.shown(), next, int(e))
	}
}

func length(s string) int { return len(strings.Fields(s)) }

// sample is a row's text and tree.
type sample struct {
	s    string
	want *api.Node
}

// within puts a sample's text in the place of each ? of a row.
func within(row string, x sample) string { return strings.ReplaceAll(row, "?", x.s) }

// prims are modules without a seal outside.
func prims() []sample {
	m := path("M")
	return []sample{
		{"M", m}, {"M.N", path("M.N")}, {"M.N.O'", path("M.N.O'")},
		{"( M )", m}, {"( ( ( M.N ) ) )", path("M.N")}, {"( F ( M ) )", app("F", m)}, {"( struct end )", str()}, {"( M : S )", seal(0, m, sname("S"))}, {"( M :> S )", seal(1, m, sname("S"))}, {"( ( M : S ) :> T )", seal(1, seal(0, m, sname("S")), sname("T"))},
		{"F ( M )", app("F", m)}, {"F ( M.N )", app("F", path("M.N"))}, {"F ( G ( M ) )", app("F", app("G", m))}, {"F ( F ( F ( F ) ) )", app("F", app("F", app("F", path("F"))))}, {"F ( ( M ) )", app("F", m)}, {"F ( struct end )", app("F", str())}, {"F ( M : S )", app("F", seal(0, m, sname("S")))}, {"F ( M :> S : T )", app("F", seal(0, seal(1, m, sname("S")), sname("T")))}, {"F ( ( G ( M ) :> S ) )", app("F", seal(1, app("G", m), sname("S")))},
		{"struct end", str()}, {"struct open M end", str(node(api.DOpen, "M"))}, {"struct val x = 7 val y = x end", str(node(api.DVal, "x", num(7)), node(api.DVal, "y", v("x")))}, {"struct structure A = struct end end", str(structure("A", str()))}, {"struct structure A = struct open A end open B structure C = struct end end", str(structure("A", str(node(api.DOpen, "A"))), node(api.DOpen, "B"), structure("C", str()))},
		{"struct include M.N val x = let y = 7 in y end datatype t = A of int type u = t end", str(node(api.DInclude, "M.N"), node(api.DVal, "x", node(api.ELet, "y", num(7), v("y"))), node(api.DData, "t", con("A", tint())), node(api.DType, "u", tname("t")))},
	}
}

// seals are modules with seals outside.
func seals() []sample {
	m, s, u := path("M"), sname("S"), sname("T")
	known := func(s *api.Node) *api.Node { return where("t", s, tint()) }
	return []sample{
		{"M : S", seal(0, m, s)}, {"M :> S", seal(1, m, s)}, {"M.N : S", seal(0, path("M.N"), s)}, {"M : S : T", seal(0, seal(0, m, s), u)}, {"M : S :> T", seal(1, seal(0, m, s), u)}, {"M :> S : T", seal(0, seal(1, m, s), u)}, {"M :> S :> T", seal(1, seal(1, m, s), u)}, {"M : S :> T : S :> S", seal(1, seal(0, seal(1, seal(0, m, s), u), s), s)},
		{"F ( M ) : S", seal(0, app("F", m), s)}, {"F ( M : S ) :> T", seal(1, app("F", seal(0, m, s)), u)}, {"struct end :> S : T", seal(0, seal(1, str(), s), u)}, {"( M : S ) :> T", seal(1, seal(0, m, s), u)}, {"( M ) : S", seal(0, m, s)}, {"F ( M :> S ) :> S", seal(1, app("F", seal(1, m, s)), s)},
		{"M : sig end", seal(0, m, body())}, {"M :> sig end : sig type t end :> S", seal(1, seal(0, seal(1, m, body()), body(node(api.PType, "t"))), s)}, {"M : S where type t = int", seal(0, m, known(s))}, {"M :> S where type t = int where type t = int : T where type t = int", seal(0, seal(1, m, known(known(s))), known(u))},
		{"struct structure A = M : S end :> sig structure A : S end", seal(1, str(structure("A", seal(0, m, s))), body(node(api.PStruct, "A", s)))}, {"struct structure A = M : S where type t = int type u = int end : T", seal(0, str(structure("A", seal(0, m, known(s))), node(api.DType, "u", tint())), u)},
	}
}

// sigs are signatures.
func sigs() []sample {
	s, i := sname("S"), tint()
	return []sample{
		{"S", s}, {"sig end", body()}, {"sig type t end", body(node(api.PType, "t"))}, {"sig val x : int val y : t end", body(node(api.PVal, "x", i), node(api.PVal, "y", tname("t")))}, {"sig structure X : sig end end", body(node(api.PStruct, "X", body()))}, {"sig include sig type t end end", body(tree(api.PInclude, body(node(api.PType, "t"))))},
		{"S where type t = int", where("t", s, i)}, {"S where type X.t = int * bool -> M.t", where("X.t", s, arrow(product(i, tree(api.TBool)), tname("M.t")))}, {"S where type t = int where type u.v = t", where("u.v", where("t", s, i), tname("t"))}, {"S where type t = int where type t = int where type a.b.c = ( unit )", where("a.b.c", where("t", where("t", s, i), i), tree(api.TUnit))},
		{"sig end where type t = int", where("t", body(), i)}, {"sig type t end where type t = mu t { A of int | B of t } where type t = int", where("t", where("t", body(node(api.PType, "t")), node(api.TMu, "t", con("A", i), con("B", tname("t")))), i)},
		{"sig structure X : S where type t = int end where type X.t = u", where("X.t", body(node(api.PStruct, "X", where("t", s, i))), tname("u"))}, {"sig include S where type t = int type u = t end", body(tree(api.PInclude, where("t", s, i)), node(api.PType, "u", tname("t")))},
	}
}

// specs are specifications.
func specs() []sample {
	s, i := sname("S"), tint()
	known := where("t", s, i)
	return []sample{
		{"val x : int", node(api.PVal, "x", i)}, {"val x' : t -> M.u * int", node(api.PVal, "x'", arrow(tname("t"), product(tname("M.u"), i)))}, {"val x : ( int )", node(api.PVal, "x", i)},
		{"type t", node(api.PType, "t")}, {"type t = int", node(api.PType, "t", i)}, {"type t = mu u { A of int | B of u }", node(api.PType, "t", node(api.TMu, "u", con("A", i), con("B", tname("u"))))},
		{"datatype t = A of int", node(api.PData, "t", con("A", i))}, {"datatype t = t of t | B of unit -> t | C of int * t", node(api.PData, "t", con("t", tname("t")), con("B", arrow(tree(api.TUnit), tname("t"))), con("C", product(i, tname("t"))))},
		{"structure X : S", node(api.PStruct, "X", s)}, {"structure X : sig end", node(api.PStruct, "X", body())}, {"structure X : S where type t = int", node(api.PStruct, "X", known)}, {"structure X : sig structure Y : sig type t end val x : Y.t end", node(api.PStruct, "X", body(node(api.PStruct, "Y", body(node(api.PType, "t"))), node(api.PVal, "x", tname("Y.t"))))},
		{"include S", tree(api.PInclude, s)}, {"include sig val x : int end", tree(api.PInclude, body(node(api.PVal, "x", i)))}, {"include S where type t = int where type u.v = int", tree(api.PInclude, where("u.v", known, i))},
		{"sharing type t = u", share("t", "u")}, {"sharing type X.t = Y.Z.u", share("X.t", "Y.Z.u")}, {"sharing type t = t", share("t", "t")}, {"sharing type t = X.t", share("t", "X.t")},
	}
}

// decls are declarations that may stand within a structure.
func decls() []sample {
	m, i := path("M"), tint()
	val := func(kids ...*api.Node) *api.Node { return node(api.DVal, "x", kids...) }
	a, b := v("a"), v("b")
	return []sample{
		{"val x = 7", val(num(7))}, {"val x = a b", val(tree(api.EApp, a, b))}, {"val x = a = b", val(eq(a, b))}, {"val x : int = 7", val(i, num(7))}, {"val x : t.u -> int = fn ( x : t.u ) => 7", val(arrow(tname("t.u"), i), node(api.ELam, "x", tname("t.u"), num(7)))}, {"val x : bool = a = b", val(tree(api.TBool), eq(a, b))}, {"val x = ( a , ( ) )", val(tree(api.EPair, a, tree(api.EUnit)))},
		{"val x = let x = a in b end", val(node(api.ELet, "x", a, b))}, {"val x = if a then b else a", val(tree(api.EIf, a, b, a))}, {"val x = case a of A y => b | B y => a end", val(tree(api.ECase, a, arm("A", "y", b), arm("B", "y", a)))}, {"val x : int = fold a to int of A y => b end", val(i, tree(api.EFold, a, i, arm("A", "y", b)))},
		{"type t = int", node(api.DType, "t", i)}, {"type t = M.u * ( int -> int )", node(api.DType, "t", product(tname("M.u"), arrow(i, i)))}, {"datatype t = A of int", node(api.DData, "t", con("A", i))}, {"datatype t = t of unit | B of int * t | A of mu t { A of int }", node(api.DData, "t", con("t", tree(api.TUnit)), con("B", product(i, tname("t"))), con("A", node(api.TMu, "t", con("A", i))))},
		{"structure X = M", structure("X", m)}, {"structure X = M.N", structure("X", path("M.N"))}, {"structure X = F ( M )", structure("X", app("F", m))}, {"structure X = struct end", structure("X", str())}, {"structure X = ( M )", structure("X", m)}, {"structure X = M : S", structure("X", seal(0, m, sname("S")))}, {"structure X = struct open M end :> sig type t end", structure("X", seal(1, str(node(api.DOpen, "M")), body(node(api.PType, "t"))))}, {"structure X = F ( M : S ) :> S where type t = int", structure("X", seal(1, app("F", seal(0, m, sname("S"))), where("t", sname("S"), i)))},
		{"open M", node(api.DOpen, "M")}, {"open M.N", node(api.DOpen, "M.N")}, {"include M", node(api.DInclude, "M")}, {"include M.N.O", node(api.DInclude, "M.N.O")},
	}
}

// tops are declarations that may stand at the top alone.
func tops() []sample {
	s, i := sname("S"), tint()
	return []sample{
		{"signature S = T", node(api.DSig, "S", sname("T"))}, {"signature S = sig end", node(api.DSig, "S", body())}, {"signature S = sig val x : int type t end where type t = int", node(api.DSig, "S", where("t", body(node(api.PVal, "x", i), node(api.PType, "t")), i))},
		{"functor F ( X : S ) = X", functor("F", "X", s, path("X"))}, {"functor F ( X : sig type t end ) = struct type u = X.t end", functor("F", "X", body(node(api.PType, "t")), str(node(api.DType, "u", tname("X.t"))))}, {"functor F ( F : S where type t = int where type X.t = int ) = F ( F ) : S :> S", functor("F", "F", where("X.t", where("t", s, i), i), seal(1, seal(0, app("F", path("F")), s), s))},
		{"functor F ( X : S ) = struct structure A = X : S open X include X.Y end : S where type t = X.t", functor("F", "X", s, seal(0, str(structure("A", seal(0, path("X"), s)), node(api.DOpen, "X"), node(api.DInclude, "X.Y")), where("t", s, tname("X.t"))))},
	}
}

// P8.1: each rule of the grammar.

// What goes on with nothing that is whole, where it stands behind it.
func strangers() []string {
	return []string{"", ")", "}", ",", "=>", "of", "to", "in", "then", "else", "sharing", "{", "mu", "int", "bool", "unit", "fn ( x : int ) => x", "let x = 7 in x end", "if", "case", "fold", "struct", "sig"}
}

func TestModulesOfEachRule(t *testing.T) {
	for _, x := range slices.Concat(prims(), seals()) {
		for _, ahead := range []string{"", "structure A =", "( (", "F (", "M :> sig", ": S"} {
			at := length(ahead)
			for _, behind := range slices.Concat(strangers(), []string{"end", "=", "val", "val x = 7", "type t = int", "datatype", "structure A = M", "signature", "functor", "open M", "include", "x", "M.N", "7", "true", "#1 x", "+", "-", "<", "|"}) {
				parses(t, "MOD", ahead+" "+x.s+" "+behind, at, at+length(x.s), x.want)
			}
		}
	}
}

func TestSignaturesOfEachRule(t *testing.T) {
	for _, x := range sigs() {
		for _, ahead := range []string{"", "signature S =", "structure X :", "where", "sig include"} {
			at := length(ahead)
			for _, behind := range slices.Concat(strangers(), []string{"end", "=", ":", ":> S", "( M )", "val", "val x : int", "type t", "datatype", "structure X : S", "signature", "functor", "open", "include S", "x", "S.T", "7", "true", "#1", "+", "-", "<", "|"}) {
				parses(t, "SIG", ahead+" "+x.s+" "+behind, at, at+length(x.s), x.want)
			}
		}
	}
}

// Specifications stand in a signature: alone, at its beginning, within, and at its end.
func TestSpecificationsOfEachRule(t *testing.T) {
	for _, x := range specs() {
		parses(t, "SIG", "sig "+x.s+" end", 0, length(x.s)+2, body(x.want))
		parses(t, "SIG", "S sig "+x.s+" end end", 1, length(x.s)+3, body(x.want))
		for _, y := range specs() {
			parses(t, "SIG", "sig "+x.s+" "+y.s+" end val", 0, length(x.s+" "+y.s)+2, body(x.want, y.want))
			parses(t, "SIG", within("sig type a ? "+x.s+" val b : a end : S", y), 0, length(x.s+" "+y.s)+8, body(node(api.PType, "a"), y.want, x.want, node(api.PVal, "b", tname("a"))))
		}
	}
}

func TestDeclarationsOfEachRule(t *testing.T) {
	for _, x := range decls() {
		for _, rule := range []string{"DECLS", "TOPS"} {
			for _, ahead := range []string{"", "struct", "val x =", "open"} {
				at := length(ahead)
				for _, behind := range slices.Concat(strangers(), []string{"end"}) {
					parses(t, rule, ahead+" "+x.s+" "+behind, at, at+length(x.s), x.want)
				}
			}
			for _, y := range decls() {
				parses(t, rule, x.s+" "+y.s+" end", 0, length(x.s+" "+y.s), x.want, y.want)
				parses(t, rule, within("end open A ? "+x.s+" type t = int", y), 1, length(x.s+" "+y.s)+7, node(api.DOpen, "A"), y.want, x.want, node(api.DType, "t", tint()))
				parses(t, rule, within("val x = y "+x.s+" ?", y), length("val x = y "+x.s), length("val x = y "+x.s+" "+y.s), y.want)
			}
		}
		parses(t, "MOD", "struct "+x.s+" end end", 0, length(x.s)+2, str(x.want))
	}
}

func TestDeclarationsAtTheTop(t *testing.T) {
	all := slices.Concat(decls(), tops())
	for _, x := range tops() {
		for _, ahead := range []string{"", "struct", "signature S =", "functor"} {
			at := length(ahead)
			for _, behind := range slices.Concat(strangers(), []string{"end"}) {
				parses(t, "TOPS", ahead+" "+x.s+" "+behind, at, at+length(x.s), x.want)
			}
		}
		for _, y := range all {
			parses(t, "TOPS", x.s+" "+y.s, 0, length(x.s+" "+y.s), x.want, y.want)
			parses(t, "TOPS", y.s+" "+x.s+" "+y.s, 0, length(x.s+" "+y.s+" "+y.s), y.want, x.want, y.want)
		}
	}
}

// signature and functor are words with which no declaration begins but at the top.
func TestSignaturesAndFunctorsThatAreNotAtTheTop(t *testing.T) {
	for _, x := range tops() {
		parses(t, "DECLS", x.s, 0, 0)
		parses(t, "DECLS", "open M "+x.s+" open N", 0, 2, node(api.DOpen, "M"))
		for _, y := range decls() {
			parses(t, "DECLS", y.s+" "+x.s+" "+y.s, 0, length(y.s), y.want)
			refuses(t, "MOD", tokensOf("struct "+y.s+" "+x.s+" end"), 0, length(y.s)+1, api.ErrParse)
		}
		for _, ahead := range []string{"struct", "struct open M", "F ( struct", "( struct structure A = struct end", "struct structure A = struct val x = 7", "struct structure A = M : S"} {
			refuses(t, "MOD", tokensOf(ahead+" "+x.s+" end"), 0, length(ahead), api.ErrParse)
			for _, rule := range []string{"DECLS", "TOPS"} {
				refuses(t, rule, tokensOf("structure B = "+ahead+" "+x.s+" end"), 0, length(ahead)+3, api.ErrParse)
			}
			refuses(t, "TOPS", tokensOf("functor F ( X : S ) = "+ahead+" "+x.s+" end"), 0, length(ahead)+8, api.ErrParse)
		}
		refuses(t, "SIG", tokensOf("sig "+x.s+" end"), 0, 1, api.ErrParse)
	}
}

// Each module may stand where any may.
func TestModulesWhereverOneMayStand(t *testing.T) {
	s, u := sname("S"), sname("T")
	for _, x := range slices.Concat(prims(), seals()) {
		m := x.want
		for _, y := range []sample{
			{"( ? )", m}, {"( ( ? ) )", m}, {"F ( ? )", app("F", m)}, {"F ( G ( ? ) )", app("F", app("G", m))}, {"? : S", seal(0, m, s)}, {"? :> S", seal(1, m, s)}, {"? : S :> T", seal(1, seal(0, m, s), u)}, {"? :> S : T : S", seal(0, seal(0, seal(1, m, s), u), s)}, {"( ? : S )", seal(0, m, s)}, {"F ( ? :> S ) : T", seal(0, app("F", seal(1, m, s)), u)},
			{"struct structure A = ? end", str(structure("A", m))}, {"struct structure A = ? structure B = ? open B end :> S", seal(1, str(structure("A", m), structure("B", m), node(api.DOpen, "B")), s)},
		} {
			row := within(y.s, x)
			parses(t, "MOD", row, 0, length(row), y.want)
		}
		for _, rule := range []string{"DECLS", "TOPS"} {
			parses(t, rule, within("structure A = ? val x = 7 structure A = ?", x), 0, 2*length(x.s)+10, structure("A", m), node(api.DVal, "x", num(7)), structure("A", m))
		}
		parses(t, "TOPS", within("functor F ( X : S ) = ? functor G ( X : S ) = ? open M", x), 0, 2*length(x.s)+18, functor("F", "X", s, m), functor("G", "X", s, m), node(api.DOpen, "M"))
	}
}

// Each signature may stand where any may.
func TestSignaturesWhereverOneMayStand(t *testing.T) {
	m, s, i := path("M"), sname("S"), tint()
	for _, x := range sigs() {
		for _, y := range []sample{{"M : ?", seal(0, m, x.want)}, {"M :> ?", seal(1, m, x.want)}, {"M : ? :> S", seal(1, seal(0, m, x.want), s)}, {"M :> ? : ?", seal(0, seal(1, m, x.want), x.want)}, {"( M : ? )", seal(0, m, x.want)}, {"F ( M :> ? ) : ?", seal(0, app("F", seal(1, m, x.want)), x.want)}, {"struct structure A = M : ? end", str(structure("A", seal(0, m, x.want)))}} {
			row := within(y.s, x)
			parses(t, "MOD", row, 0, length(row), y.want)
		}
		for _, y := range []sample{{"? where type t = int", where("t", x.want, i)}, {"? where type t = int where type u = int", where("u", where("t", x.want, i), i)}, {"sig structure X : ? end", body(node(api.PStruct, "X", x.want))}, {"sig include ? include ? structure X : ? type t end", body(tree(api.PInclude, x.want), tree(api.PInclude, x.want), node(api.PStruct, "X", x.want), node(api.PType, "t"))}} {
			row := within(y.s, x)
			parses(t, "SIG", row, 0, length(row), y.want)
		}
		for _, y := range []sample{{"signature S = ?", node(api.DSig, "S", x.want)}, {"functor F ( X : ? ) = M", functor("F", "X", x.want, m)}, {"functor F ( X : ? ) = M : ?", functor("F", "X", x.want, seal(0, m, x.want))}, {"structure A = M :> ?", structure("A", seal(1, m, x.want))}} {
			row := within(y.s, x)
			parses(t, "TOPS", row, 0, length(row), y.want)
			parses(t, "TOPS", row+" "+row+" end", 0, 2*length(row), y.want, y.want)
		}
	}
}

// Types and expressions are those of layers 6 and 7, as far as they go.
func TestTypesAndExpressionsWithin(t *testing.T) {
	i := tint()
	for _, x := range []sample{{"int", i}, {"t.u", tname("t.u")}, {"int -> t -> unit", arrow(i, arrow(tname("t"), tree(api.TUnit)))}, {"int * t * bool", product(i, product(tname("t"), tree(api.TBool)))}, {"( int -> int ) * t", product(arrow(i, i), tname("t"))}, {"( ( int ) )", i}, {"mu t { A of int | B of t }", node(api.TMu, "t", con("A", i), con("B", tname("t")))}} {
		n := x.want
		for _, y := range []sample{{"sig val x : ? end", body(node(api.PVal, "x", n))}, {"sig type t = ? val x : ? type u end", body(node(api.PType, "t", n), node(api.PVal, "x", n), node(api.PType, "u"))}, {"sig datatype t = A of ? | B of ? type u end", body(node(api.PData, "t", con("A", n), con("B", n)), node(api.PType, "u"))}, {"S where type t = ? where type u = ?", where("u", where("t", sname("S"), n), n)}} {
			row := within(y.s, x)
			parses(t, "SIG", row, 0, length(row), y.want)
		}
		for _, y := range []sample{{"val x : ? = 7", node(api.DVal, "x", n, num(7))}, {"type t = ?", node(api.DType, "t", n)}, {"datatype t = A of ? | B of ?", node(api.DData, "t", con("A", n), con("B", n))}, {"val x = fn ( x : ? ) => 7", node(api.DVal, "x", node(api.ELam, "x", n, num(7)))}} {
			row := within(y.s, x)
			parses(t, "DECLS", row+" open M "+row, 0, 2*length(row)+2, y.want, node(api.DOpen, "M"), y.want)
		}
	}
	for _, x := range []sample{{"7", num(7)}, {"~7", num(-7)}, {"( )", tree(api.EUnit)}, {"M.x", v("M.x")}, {"a = a = b", eq(v("a"), v("a"))}, {"let x = a in b end", node(api.ELet, "x", v("a"), v("b"))}, {"case a of A x => b end", tree(api.ECase, v("a"), arm("A", "x", v("b")))}, {"if a then b else fn ( x : int ) => a", tree(api.EIf, v("a"), v("b"), node(api.ELam, "x", i, v("a")))}, {"#1 ( a , b )", tree(api.EFst, tree(api.EPair, v("a"), v("b")))}} {
		row := within("val x : int = ? ", x)
		if x.s == "a = a = b" { // no comparison goes on with another one
			parses(t, "DECLS", row, 0, 8, node(api.DVal, "x", i, x.want))
			refuses(t, "MOD", tokensOf("struct "+row+" end"), 0, 9, api.ErrParse)
			continue
		}
		parses(t, "DECLS", row+within("val y = ? type t = int", x), 0, 2*length(x.s)+12, node(api.DVal, "x", i, x.want), node(api.DVal, "y", x.want), node(api.DType, "t", i))
		parses(t, "MOD", "struct "+row+row+"end", 0, 2*length(row)+2, str(node(api.DVal, "x", i, x.want), node(api.DVal, "x", i, x.want)))
	}
}

// What begins with a name and ( is an application; a long name is a path, and ( does not go on with it.
func TestNamesWithASignBehindThem(t *testing.T) {
	m, n := path("M"), path("N")
	for _, x := range []struct {
		s    string
		next int
		want *api.Node
	}{
		{"M", 1, m}, {"M ( N )", 4, app("M", n)}, {"M ( N ) ( N )", 4, app("M", n)}, {"M ( N ) N", 4, app("M", n)}, {"M N", 1, m}, {"M N ( M )", 1, m}, {"M.N ( M )", 1, path("M.N")}, {"M.N (", 1, path("M.N")}, {"M )", 1, m}, {"M {", 1, m}, {"( M ) ( N )", 3, m}, {"struct end ( N )", 2, str()},
		{"M : S ( N )", 3, seal(0, m, sname("S"))}, {"M ( N ) : S ( N )", 6, seal(0, app("M", n), sname("S"))}, {"M : sig end ( N )", 4, seal(0, m, body())}, {"M ( N.M )", 4, app("M", path("N.M"))},
	} {
		parses(t, "MOD", x.s, 0, x.next, x.want)
		for _, rule := range []string{"DECLS", "TOPS"} {
			parses(t, rule, "structure A = "+x.s, 0, x.next+3, structure("A", x.want))
			parses(t, rule, "open ( structure A = "+x.s, 2, x.next+5, structure("A", x.want))
			if x.next < length(x.s) {
				refuses(t, rule, tokensOf("structure B = struct structure A = "+x.s), 0, x.next+7, api.ErrParse)
			}
		}
		if x.next < length(x.s) {
			refuses(t, "MOD", tokensOf("struct structure A = "+x.s+" end"), 0, x.next+4, api.ErrParse)
			refuses(t, "MOD", tokensOf("struct structure A = F ( struct structure A = "+x.s+" end )"), 0, x.next+10, api.ErrParse)
		}
	}
	for _, other := range []api.Token{{Kind: api.TkName, Text: "("}, {Kind: api.TkInt, Text: "("}, {Text: "("}, {Kind: 4, Text: "("}} {
		l := tokensOf("M ( N )")
		l[1] = other
		if got := asked("MOD", l, 0); got != (answer{text(m), 1, api.OK}) {
			t.Error(got.shown())
		}
	}
	for _, ahead := range []string{"open M", "include M", "structure A = M.N", "type t = M", "signature S = M"} {
		if got := asked("TOPS", tokensOf(ahead+" ( N )"), 0); got.next != length(ahead) || got.e != api.OK {
			t.Errorf("%q: %s", ahead, got.shown())
		}
	}
}

// Any number of declarations and specifications are none, too.
func TestNoDeclarations(t *testing.T) {
	for _, s := range []string{"", "end", "x", "7", ")", "struct", "sharing type t = u", "where type t = int", "sig", "in", "int", "=", "x = 7", "M ( N )"} {
		for _, rule := range []string{"DECLS", "TOPS"} {
			parses(t, rule, s, 0, 0)
			parses(t, rule, "val x "+s, 2, 2)
		}
	}
	for _, rule := range []string{"DECLS", "TOPS"} {
		for _, l := range [][]api.Token{nil, {}, {{}}, {{Kind: api.TkName, Text: "val"}}, {{Kind: 4, Text: "open"}}} {
			if got := asked(rule, l, 0); got != (answer{"", 0, api.OK}) {
				t.Error(got.shown())
			}
		}
		l := tokensOf("open M")
		if got := asked(rule, l, 2); got != (answer{"", 2, api.OK}) {
			t.Error(got.shown())
		}
	}
}

// Names may be bound, specified and opened again; constructors may stand again in another datatype.
func TestNamesThatMayStandAgain(t *testing.T) {
	for _, s := range []string{
		"val x = x val x = x type x = x structure x = x open x include x", "datatype t = A of int datatype t = A of int | B of t datatype u = A of int", "datatype t = A of mu A { A of A } | B of mu A { A of A }", "structure A = struct datatype t = A of int structure A = struct datatype t = A of int end end", "structure M = M : sig val x : int val x : int type x type x sharing type x = x structure x : x include x datatype t = A of int datatype t = A of int end",
	} {
		for _, rule := range []string{"DECLS", "TOPS"} {
			l := tokensOf(s)
			if got := asked(rule, l, 0); got != (answer{strings.Join(declTexts(l), " "), len(l), api.OK}) {
				t.Errorf("%q: %s", s, got.shown())
			}
		}
	}
	parses(t, "TOPS", "signature S = S functor S ( S : S ) = S signature S = S", 0, 17, node(api.DSig, "S", sname("S")), functor("S", "S", sname("S"), path("S")), node(api.DSig, "S", sname("S")))
}

func TestTokensOfATextAreModules(t *testing.T) {
	l, _, _ := lexer.Lex("x(*struct*)struct val x:int*M.t=~1 structure N=F(M):>S where type t=int end:sig val x:int end x")
	n, next, e := pmod.Mod(l, 1)
	want := seal(0, str(node(api.DVal, "x", product(tint(), tname("M.t")), num(-1)), structure("N", seal(1, app("F", path("M")), where("t", sname("S"), tint())))), body(node(api.PVal, "x", tint())))
	if e != api.OK || next != len(l)-1 || text(n) != text(want) {
		t.Error(text(n), next, int(e))
	}
}

// P8.1: places where there is nothing.

func TestPlacesOfAList(t *testing.T) {
	for _, s := range []string{"", "M", "S", "open M", "M : S", "F ( M )", "signature S = sig end"} {
		l := tokensOf(s)
		for _, rule := range everyRule() {
			for _, i := range []int{-1, -2, math.MinInt, math.MinInt32, len(l) + 1, len(l) + 2, len(l) + 100, math.MaxInt, math.MaxInt32, 1 << 32, 1<<32 + 1, -1 << 32} {
				refuses(t, rule, l, i, 0, api.ErrArg)
			}
		}
		for _, rule := range []string{"MOD", "SIG"} {
			refuses(t, rule, l, len(l), len(l), api.ErrParse)
		}
	}
	for _, rule := range everyRule() {
		refuses(t, rule, nil, 1, 0, api.ErrArg)
		refuses(t, rule, nil, -1, 0, api.ErrArg)
	}
	for _, rule := range []string{"MOD", "SIG"} {
		refuses(t, rule, nil, 0, 0, api.ErrParse)
		refuses(t, rule, []api.Token{}, 0, 0, api.ErrParse)
	}
	parses(t, "MOD", "F ( M )", 0, 4, app("F", path("M")))
	parses(t, "MOD", "F ( M )", 1, 4, path("M"))
	parses(t, "MOD", "F ( M )", 2, 3, path("M"))
	refuses(t, "MOD", tokensOf("F ( M )"), 3, 3, api.ErrParse)
	parses(t, "SIG", "sig include S end", 2, 3, sname("S"))
	parses(t, "DECLS", "open M open N", 2, 4, node(api.DOpen, "N"))
	parses(t, "DECLS", "open M open N", 1, 1)
}

// What is in a list ahead of a place, and behind what is whole, changes nothing.
func TestWhatStandsAheadChangesNothing(t *testing.T) {
	for _, x := range []struct {
		rule string
		l    []sample
	}{{"MOD", slices.Concat(prims(), seals())}, {"SIG", sigs()}, {"DECLS", decls()}, {"TOPS", slices.Concat(decls(), tops())}} {
		for _, y := range x.l {
			for n := range 4 {
				far := append(make([]api.Token, n), tokensOf(y.s+" "+strconv.Quote(y.s))...)
				if got := asked(x.rule, far, n); got.trees != text(y.want) || got.next != n+length(y.s) || got.e != api.OK {
					t.Errorf("%q: %s", y.s, got.shown())
				}
			}
		}
	}
}
