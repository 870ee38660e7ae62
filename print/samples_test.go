package print_test

import (
	"slices"

	"marquetry/api"
)

// samples_test.go holds trees with the texts that are asked of them.

type sample struct {
	want string
	n    *api.Node
}

func tname(name string) *api.Node      { return node(api.TName, name) }
func arrow(a, b *api.Node) *api.Node   { return tree(api.TArrow, a, b) }
func product(a, b *api.Node) *api.Node { return tree(api.TPair, a, b) }

func con(name string, n *api.Node) *api.Node { return node(api.TCon, name, n) }
func arm(con, name string, body *api.Node) *api.Node {
	return marked(api.EArm, con, name, body)
}

func v(name string) *api.Node { return node(api.EVar, name) }
func num(n int) *api.Node     { return numbered(api.EInt, n) }
func op(kind int, a, b *api.Node) *api.Node {
	return numbered(api.EOp, kind, a, b)
}

func path(name string) *api.Node             { return node(api.MPath, name) }
func app(name string, m *api.Node) *api.Node { return node(api.MApp, name, m) }
func str(decls ...*api.Node) *api.Node       { return tree(api.MStruct, decls...) }
func seal(number int, m, s *api.Node) *api.Node {
	return numbered(api.MSeal, number, m, s)
}

func sname(name string) *api.Node       { return node(api.SName, name) }
func body(specs ...*api.Node) *api.Node { return tree(api.SBody, specs...) }
func where(name string, s, n *api.Node) *api.Node {
	return node(api.SWhere, name, s, n)
}

func open(name string) *api.Node { return node(api.DOpen, name) }

// types are types with each number of signs.
func types() []sample {
	i, u := tree(api.TInt), tname("t.u")
	mu := node(api.TMu, "l", con("N", tree(api.TUnit)), con("C", product(tree(api.TBool), tname("l"))))
	return []sample{
		{"int", i}, {"bool", tree(api.TBool)}, {"unit", tree(api.TUnit)}, {"t", tname("t")}, {"t.u", u}, {"M.N.t'", tname("M.N.t'")},
		{"int -> t.u", arrow(i, u)}, {"int -> t.u -> int", arrow(i, arrow(u, i))}, {"( int -> t.u ) -> int", arrow(arrow(i, u), i)}, {"int * t.u", product(i, u)}, {"int * t.u * int", product(i, product(u, i))}, {"( int * t.u ) * int", product(product(i, u), i)},
		{"int * t.u -> int", arrow(product(i, u), i)}, {"int * ( t.u -> int )", product(i, arrow(u, i))}, {"( int -> int ) * int", product(arrow(i, i), i)},
		{"mu l { N of unit | C of bool * l }", mu}, {"mu l { N of unit | C of bool * l } * int", product(mu, i)}, {"mu t { A of ( t -> int ) * int }", node(api.TMu, "t", con("A", product(arrow(tname("t"), i), i)))},
	}
}

// exprs are expressions of each kind, with signs and without.
func exprs() []sample {
	a, b, one := v("a"), v("M.b"), num(1)
	fn := node(api.ELam, "x", arrow(tree(api.TInt), tname("t")), a)
	return []sample{
		{"1", one}, {"~7", num(-7)}, {"0", num(0)}, {"1073741824", num(1 << 30)}, {"~1073741824", num(-1 << 30)}, {"true", numbered(api.EBool, 1)}, {"false", tree(api.EBool)}, {"( )", tree(api.EUnit)}, {"a", a}, {"M.b", b},
		{"fn ( x : int -> t ) => a", fn}, {"( fn ( x : int -> t ) => a ) 1", tree(api.EApp, fn, one)}, {"a M.b", tree(api.EApp, a, b)}, {"a M.b 1", tree(api.EApp, tree(api.EApp, a, b), one)}, {"a ( M.b 1 )", tree(api.EApp, a, tree(api.EApp, b, one))}, {"a ( )", tree(api.EApp, a, tree(api.EUnit))},
		{"( a , M.b )", tree(api.EPair, a, b)}, {"( a , ( M.b , 1 ) )", tree(api.EPair, a, tree(api.EPair, b, one))}, {"#1 a", tree(api.EFst, a)}, {"#2 #1 a", tree(api.ESnd, tree(api.EFst, a))}, {"#1 ( a M.b )", tree(api.EFst, tree(api.EApp, a, b))},
		{"let x = a in x end", node(api.ELet, "x", a, v("x"))}, {"if a then M.b else 1", tree(api.EIf, a, b, one)}, {"a + M.b * 1", op(api.OpAdd, a, op(api.OpMul, b, one))}, {"( a + M.b ) * 1", op(api.OpMul, op(api.OpAdd, a, b), one)}, {"a - M.b", op(api.OpSub, a, b)}, {"a = M.b", op(api.OpEq, a, b)}, {"a < 1", op(api.OpLess, a, one)}, {"( a = M.b ) = 1", op(api.OpEq, op(api.OpEq, a, b), one)},
		{"case a of A x => M.b | B y => 1 end", tree(api.ECase, a, arm("A", "x", b), arm("B", "y", one))}, {"fold a to int * int of A x => x end", tree(api.EFold, a, product(tree(api.TInt), tree(api.TInt)), arm("A", "x", v("x")))},
	}
}

// mods are modules of each kind, in one another.
func mods() []sample {
	m, s, u := path("M"), sname("S"), sname("T")
	fm := app("F", m)
	known := where("t", s, tree(api.TInt))
	return []sample{
		{"M", m}, {"M.N", path("M.N")}, {"M.N.O'", path("M.N.O'")},
		{"struct end", str()}, {"struct open M end", str(open("M"))}, {"struct open M open N end", str(open("M"), open("N"))}, {"struct val x = 1 type t = int include M.N structure A = M end", str(node(api.DVal, "x", num(1)), node(api.DType, "t", tree(api.TInt)), node(api.DInclude, "M.N"), node(api.DStruct, "A", m))},
		{"struct structure A = struct end end", str(node(api.DStruct, "A", str()))}, {"struct structure A = struct open M end structure B = struct structure C = struct end end end", str(node(api.DStruct, "A", str(open("M"))), node(api.DStruct, "B", str(node(api.DStruct, "C", str()))))},
		{"F ( M )", fm}, {"F ( M.N )", app("F", path("M.N"))}, {"F ( G ( M ) )", app("F", app("G", m))}, {"F ( F ( F ( F ) ) )", app("F", app("F", app("F", path("F"))))}, {"F ( struct end )", app("F", str())}, {"F ( struct open M end )", app("F", str(open("M")))}, {"F ( M : S )", app("F", seal(0, m, s))}, {"F ( M :> S : T )", app("F", seal(0, seal(1, m, s), u))}, {"F ( G ( M ) :> S )", app("F", seal(1, app("G", m), s))},
		{"M : S", seal(0, m, s)}, {"M :> S", seal(1, m, s)}, {"M.N : S", seal(0, path("M.N"), s)}, {"struct end : S", seal(0, str(), s)}, {"F ( M ) :> S", seal(1, fm, s)}, {"M : S : T", seal(0, seal(0, m, s), u)}, {"M : S :> T", seal(1, seal(0, m, s), u)}, {"M :> S : T", seal(0, seal(1, m, s), u)}, {"M :> S :> T", seal(1, seal(1, m, s), u)}, {"M : S :> T : S :> S", seal(1, seal(0, seal(1, seal(0, m, s), u), s), s)},
		{"M : sig end", seal(0, m, body())}, {"M :> sig type t end : sig end", seal(0, seal(1, m, body(node(api.PType, "t"))), body())}, {"M : S where type t = int", seal(0, m, known)}, {"M :> S where type t = int : S where type t = int :> T", seal(1, seal(0, seal(1, m, known), known), u)}, {"F ( M : S where type t = int ) : S where type t = int", seal(0, app("F", seal(0, m, known)), known)},
		{"struct structure A = M : S open A end :> sig structure A : S end", seal(1, str(node(api.DStruct, "A", seal(0, m, s)), open("A")), body(node(api.PStruct, "A", s)))},
	}
}

// sigs are signatures of each kind, with one where, two and more.
func sigs() []sample {
	s, i := sname("S"), tree(api.TInt)
	one := where("t", s, i)
	return []sample{
		{"S", s}, {"S'", sname("S'")}, {"sig end", body()}, {"sig type t end", body(node(api.PType, "t"))}, {"sig type t val x : t end", body(node(api.PType, "t"), node(api.PVal, "x", tname("t")))}, {"sig include S structure X : S sharing type t = X.t type u = int end", body(tree(api.PInclude, s), node(api.PStruct, "X", s), marked(api.PShare, "t", "X.t"), node(api.PType, "u", i))},
		{"sig structure X : sig end end", body(node(api.PStruct, "X", body()))}, {"sig include sig include sig end end end", body(tree(api.PInclude, body(tree(api.PInclude, body()))))},
		{"S where type t = int", one}, {"S where type X.t = int * bool -> M.t", where("X.t", s, arrow(product(i, tree(api.TBool)), tname("M.t")))}, {"S where type t = ( int -> int ) -> int", where("t", s, arrow(arrow(i, i), i))}, {"S where type t = int where type u.v = t", where("u.v", one, tname("t"))}, {"S where type t = int where type t = int where type a.b.c = unit", where("a.b.c", where("t", one, i), tree(api.TUnit))},
		{"sig end where type t = int", where("t", body(), i)}, {"sig type t end where type t = mu l { N of unit | C of l } where type t = int", where("t", where("t", body(node(api.PType, "t")), node(api.TMu, "l", con("N", tree(api.TUnit)), con("C", tname("l")))), i)},
		{"sig structure X : S where type t = int end where type X.t = u", where("X.t", body(node(api.PStruct, "X", one)), tname("u"))}, {"sig include S where type t = int type u end", body(tree(api.PInclude, one), node(api.PType, "u"))},
	}
}

// specs are specifications of each kind, with each number of kids.
func specs() []sample {
	s, i := sname("S"), tree(api.TInt)
	return []sample{
		{"val x : int", node(api.PVal, "x", i)}, {"val x' : t -> M.u * int", node(api.PVal, "x'", arrow(tname("t"), product(tname("M.u"), i)))}, {"val f : ( int -> int ) -> int", node(api.PVal, "f", arrow(arrow(i, i), i))},
		{"type t", node(api.PType, "t")}, {"type t = int", node(api.PType, "t", i)}, {"type t = mu l { N of unit }", node(api.PType, "t", node(api.TMu, "l", con("N", tree(api.TUnit))))},
		{"datatype t = A of int", node(api.PData, "t", con("A", i))}, {"datatype t = t of t | B of unit -> t | C of ( int * t ) * int", node(api.PData, "t", con("t", tname("t")), con("B", arrow(tree(api.TUnit), tname("t"))), con("C", product(product(i, tname("t")), i)))},
		{"structure X : S", node(api.PStruct, "X", s)}, {"structure X : sig end", node(api.PStruct, "X", body())}, {"structure X : S where type t = int where type u = int", node(api.PStruct, "X", where("u", where("t", s, i), i))}, {"structure X : sig structure Y : sig type t end val x : Y.t end", node(api.PStruct, "X", body(node(api.PStruct, "Y", body(node(api.PType, "t"))), node(api.PVal, "x", tname("Y.t"))))},
		{"include S", tree(api.PInclude, s)}, {"include sig val x : int end", tree(api.PInclude, body(node(api.PVal, "x", i)))}, {"include S where type t = int", tree(api.PInclude, where("t", s, i))},
		{"sharing type t = u", marked(api.PShare, "t", "u")}, {"sharing type X.t = Y.Z.u", marked(api.PShare, "X.t", "Y.Z.u")}, {"sharing type t = X.t", marked(api.PShare, "t", "X.t")},
	}
}

// inner are declarations that may stand within a structure.
func inner() []sample {
	m, s, i := path("M"), sname("S"), tree(api.TInt)
	return []sample{
		{"val x = 1", node(api.DVal, "x", num(1))}, {"val x : int = 1", node(api.DVal, "x", i, num(1))}, {"val x = a = b", node(api.DVal, "x", op(api.OpEq, v("a"), v("b")))}, {"val x : bool = a = b", node(api.DVal, "x", tree(api.TBool), op(api.OpEq, v("a"), v("b")))}, {"val f' : ( int -> int ) -> t.u = fn ( x : int ) => ( a M.b , ( ) )", node(api.DVal, "f'", arrow(arrow(i, i), tname("t.u")), node(api.ELam, "x", i, tree(api.EPair, tree(api.EApp, v("a"), v("M.b")), tree(api.EUnit))))},
		{"type t = int", node(api.DType, "t", i)}, {"type t = M.u * ( int -> int )", node(api.DType, "t", product(tname("M.u"), arrow(i, i)))},
		{"datatype t = A of int", node(api.DData, "t", con("A", i))}, {"datatype t = t of unit | B of int * t | A of mu t { A of int } | C of t -> t", node(api.DData, "t", con("t", tree(api.TUnit)), con("B", product(i, tname("t"))), con("A", node(api.TMu, "t", con("A", i))), con("C", arrow(tname("t"), tname("t"))))},
		{"structure X = M", node(api.DStruct, "X", m)}, {"structure X = F ( M.N )", node(api.DStruct, "X", app("F", path("M.N")))}, {"structure X = struct end", node(api.DStruct, "X", str())}, {"structure X = M : S :> sig type t end", node(api.DStruct, "X", seal(1, seal(0, m, s), body(node(api.PType, "t"))))}, {"structure X = F ( M : S ) :> S where type t = int", node(api.DStruct, "X", seal(1, app("F", seal(0, m, s)), where("t", s, i)))},
		{"open M", open("M")}, {"open M.N.O", open("M.N.O")}, {"include M", node(api.DInclude, "M")}, {"include M.N", node(api.DInclude, "M.N")},
	}
}

// tops are declarations that stand at the top alone.
func tops() []sample {
	m, s, i := path("X"), sname("S"), tree(api.TInt)
	return []sample{
		{"signature S = T", node(api.DSig, "S", sname("T"))}, {"signature S = sig end", node(api.DSig, "S", body())}, {"signature S = sig type t end where type t = int where type t = int", node(api.DSig, "S", where("t", where("t", body(node(api.PType, "t")), i), i))},
		{"functor F ( X : S ) = X", marked(api.DFunctor, "F", "X", s, m)}, {"functor F ( X : sig end ) = struct end", marked(api.DFunctor, "F", "X", body(), str())}, {"functor F ( X : S where type t = int ) = struct open X end :> S where type t = int", marked(api.DFunctor, "F", "X", where("t", s, i), seal(1, str(open("X")), where("t", s, i)))}, {"functor F ( F : S ) = F ( F : S ) : S", marked(api.DFunctor, "F", "F", s, seal(0, app("F", seal(0, path("F"), s)), s))},
	}
}

func decls() []sample { return slices.Concat(inner(), tops()) }

// samplesOf tells all samples of a category.
func samplesOf(category string) []sample {
	switch category {
	case "mod":
		return mods()
	case "sig":
		return sigs()
	case "spec":
		return specs()
	case "decl":
		return decls()
	case "prog":
		return programs()
	}
	return nil
}

// programs are programs of none, one and many declarations.
func programs() []sample {
	all := sample{"", tree(api.Prog)}
	l := []sample{{"", tree(api.Prog)}, {"", &api.Node{Kind: api.Prog, Kids: []*api.Node{}}}}
	for _, x := range decls() {
		all = sample{all.want + x.want + "\n", tree(api.Prog, slices.Concat(all.n.Kids, []*api.Node{x.n})...)}
		l = append(l, sample{x.want + "\n", tree(api.Prog, x.n)}, sample{x.want + "\n" + x.want + "\n", tree(api.Prog, x.n, x.n)}, all)
	}
	return l
}

func nodesOf(l []sample) []*api.Node {
	var nodes []*api.Node
	for _, x := range l {
		nodes = append(nodes, x.n)
	}
	return nodes
}
