package pexpr_test

import (
	"fmt"
	"math"
	"slices"
	"strconv"
	"strings"
	"testing"

	"marquetry/api"
	"marquetry/lexer"
	"marquetry/pexpr"
	"marquetry/shape"
)

// asked tells what the package answers of tokens.
func asked(l []api.Token, i int) answer {
	n, next, e := pexpr.Expr(l, i)
	return answer{text(n), next, e}
}

func (a answer) shown() string {
	return fmt.Sprintf("%.400q, %d, %d", a.tree, a.next, int(a.e))
}

// agrees asks at each place of a list, and beyond, and the oracle.
func agrees(t *testing.T, l []api.Token) {
	t.Helper()
	for i := -1; i <= len(l)+1; i++ {
		agreesAt(t, l, i)
	}
}

func agreesAt(t *testing.T, l []api.Token, i int) {
	t.Helper()
	if got, want := asked(l, i), oracle(l, i); got != want {
		t.Fatalf("%.400q at %d: %s, not %s", shown(l), i, got.shown(), want.shown())
	}
}

func shown(l []api.Token) string {
	var s []string
	for _, x := range l {
		s = append(s, x.Text)
	}
	return strings.Join(s, " ")
}

// tree, node and those behind them make nodes.
func tree(kind int, kids ...*api.Node) *api.Node { return &api.Node{Kind: kind, Kids: kids} }

func node(kind int, name string, kids ...*api.Node) *api.Node {
	return &api.Node{Kind: kind, Name: name, Kids: kids}
}

func num(n int) *api.Node { return &api.Node{Kind: api.EInt, N: n} }

func op(kind int, a, b *api.Node) *api.Node {
	return &api.Node{Kind: api.EOp, N: kind, Kids: []*api.Node{a, b}}
}

func arm(con, name string, body *api.Node) *api.Node {
	return &api.Node{Kind: api.EArm, Name: con, Mark: name, Kids: []*api.Node{body}}
}

func v(name string) *api.Node         { return node(api.EVar, name) }
func tname(name string) *api.Node     { return node(api.TName, name) }
func add(a, b *api.Node) *api.Node    { return op(api.OpAdd, a, b) }
func sub(a, b *api.Node) *api.Node    { return op(api.OpSub, a, b) }
func mul(a, b *api.Node) *api.Node    { return op(api.OpMul, a, b) }
func eq(a, b *api.Node) *api.Node     { return op(api.OpEq, a, b) }
func less(a, b *api.Node) *api.Node   { return op(api.OpLess, a, b) }
func app(a, b *api.Node) *api.Node    { return tree(api.EApp, a, b) }
func pair(a, b *api.Node) *api.Node   { return tree(api.EPair, a, b) }
func fst(a *api.Node) *api.Node       { return tree(api.EFst, a) }
func snd(a *api.Node) *api.Node       { return tree(api.ESnd, a) }
func iff(a, b, c *api.Node) *api.Node { return tree(api.EIf, a, b, c) }

func lam(name string, n, body *api.Node) *api.Node     { return node(api.ELam, name, n, body) }
func let(name string, bound, body *api.Node) *api.Node { return node(api.ELet, name, bound, body) }

// parses asks for an expression's tree and place.
func parses(t *testing.T, s string, at int, want *api.Node, next int) {
	t.Helper()
	if got := asked(tokensOf(s), at); got != (answer{text(want), next, api.OK}) {
		t.Errorf("%q at %d: %s, not %.400q, %d", s, at, got.shown(), text(want), next)
	}
}

// refuses asks for an error and its place.
func refuses(t *testing.T, l []api.Token, at, next int, e api.Errno) {
	t.Helper()
	if got := asked(l, at); got != (answer{"nil", next, e}) {
		t.Errorf("%.200q at %d: %s, not %d, %d", shown(l), at, got.shown(), next, int(e))
	}
}

// P7.1: each rule of the grammar.

func TestExamples(t *testing.T) {
	l, _, _ := lexer.Lex("f x + 2 * y")
	n, next, e := pexpr.Expr(l, 0)
	if text(n) != text(add(app(v("f"), v("x")), mul(num(2), v("y")))) || next != 6 || e != api.OK {
		t.Error(text(n), next, int(e))
	}
	if s, e := pexpr.Write(app(v("f"), app(v("g"), v("x")))); s != "f ( g x )" || e != api.OK {
		t.Errorf("%q %d", s, int(e))
	}
}

// sample is an expression's text and tree.
type sample struct {
	s    string
	want *api.Node
}

// atoms are the forms of which any may stand where an atom is asked.
func atoms() []sample {
	return []sample{
		{"7", num(7)}, {"~7", num(-7)}, {"0", num(0)}, {"1073741824", num(1 << 30)}, {"~1073741824", num(-1 << 30)},
		{"true", &api.Node{Kind: api.EBool, N: 1}}, {"false", tree(api.EBool)}, {"( )", tree(api.EUnit)}, {"x", v("x")}, {"M.N.x", v("M.N.x")},
		{"( x )", v("x")}, {"( ( ( M.x ) ) )", v("M.x")}, {"( ( ) )", tree(api.EUnit)}, {"( x , 7 )", pair(v("x"), num(7))}, {"( ( ) , ( ) )", pair(tree(api.EUnit), tree(api.EUnit))},
		{"( ( x , y ) , z )", pair(pair(v("x"), v("y")), v("z"))}, {"( x , ( y , z ) )", pair(v("x"), pair(v("y"), v("z")))}, {"( ( x , y ) )", pair(v("x"), v("y"))},
		{"#1 x", fst(v("x"))}, {"#2 x", snd(v("x"))}, {"#1 #2 x", fst(snd(v("x")))}, {"#2 #1 #1 7", snd(fst(fst(num(7))))}, {"#1 ( x , y )", fst(pair(v("x"), v("y")))}, {"#2 ( #1 x )", snd(fst(v("x")))}, {"( #1 x )", fst(v("x"))}, {"#1 ( )", fst(tree(api.EUnit))}, {"#2 true", snd(&api.Node{Kind: api.EBool, N: 1})},
		{"( f x )", app(v("f"), v("x"))}, {"#1 ( f x )", fst(app(v("f"), v("x")))}, {"( x + y )", add(v("x"), v("y"))}, {"( x = y )", eq(v("x"), v("y"))}, {"( x < y , x * y )", pair(less(v("x"), v("y")), mul(v("x"), v("y")))},
		{"( fn ( x : int ) => x )", lam("x", tree(api.TInt), v("x"))}, {"#1 ( let x = y in z end )", fst(let("x", v("y"), v("z")))}, {"( if x then y else z , fn ( x : t ) => x )", pair(iff(v("x"), v("y"), v("z")), lam("x", tname("t"), v("x")))},
	}
}

// chains are the forms that bind looser than an atom, and begin with no word of their own.
func chains() []sample {
	a, b, c, d := v("a"), v("b"), v("c"), v("d")
	return []sample{
		{"a b", app(a, b)}, {"a b c d", app(app(app(a, b), c), d)}, {"a ( b c ) d", app(app(a, app(b, c)), d)}, {"( a b ) ( c d )", app(app(a, b), app(c, d))}, {"1 true ( ) false", app(app(app(num(1), &api.Node{Kind: api.EBool, N: 1}), tree(api.EUnit)), tree(api.EBool))},
		{"#1 a b", app(fst(a), b)}, {"#1 ( a b )", fst(app(a, b))}, {"a #1 b", app(a, fst(b))}, {"a #1 #2 b c", app(app(a, fst(snd(b))), c)}, {"#2 #1 a #1 b", app(snd(fst(a)), fst(b))}, {"a ( b , c ) ~1", app(app(a, pair(b, c)), num(-1))},
		{"a * b", mul(a, b)}, {"a * b * c", mul(mul(a, b), c)}, {"a * b * c * d", mul(mul(mul(a, b), c), d)}, {"( a * b ) * c", mul(mul(a, b), c)}, {"a * ( b * c )", mul(a, mul(b, c))}, {"a * ( b * c ) * d", mul(mul(a, mul(b, c)), d)}, {"a b * c d", mul(app(a, b), app(c, d))}, {"#1 a * #2 b", mul(fst(a), snd(b))},
		{"a + b", add(a, b)}, {"a - b", sub(a, b)}, {"a + b + c + d", add(add(add(a, b), c), d)}, {"a - b - c - d", sub(sub(sub(a, b), c), d)}, {"a - b + c - d", sub(add(sub(a, b), c), d)}, {"a - ( b - c ) - d", sub(sub(a, sub(b, c)), d)}, {"a + ( b + c )", add(a, add(b, c))}, {"1 - ~1", sub(num(1), num(-1))},
		{"a * b + c * d", add(mul(a, b), mul(c, d))}, {"a + b * c - d", sub(add(a, mul(b, c)), d)}, {"a + b * c * d", add(a, mul(mul(b, c), d))}, {"( a + b ) * ( c - d )", mul(add(a, b), sub(c, d))}, {"a * ( b + c ) * d", mul(mul(a, add(b, c)), d)}, {"a b - c", sub(app(a, b), c)}, {"a + b c", add(a, app(b, c))}, {"a ( b + c )", app(a, add(b, c))},
		{"a = b", eq(a, b)}, {"a < b", less(a, b)}, {"a + b = c - d", eq(add(a, b), sub(c, d))}, {"a * b < c d", less(mul(a, b), app(c, d))}, {"( a = b ) = c", eq(eq(a, b), c)}, {"a < ( b < c )", less(a, less(b, c))}, {"( a = b ) + ( c < d )", add(eq(a, b), less(c, d))}, {"a ( b = c )", app(a, eq(b, c))}, {"#1 a = #2 b", eq(fst(a), snd(b))},
	}
}

// loose are the forms that begin with a word of their own.
func loose() []sample {
	a, b, c, d := v("a"), v("b"), v("c"), v("d")
	i := tree(api.TInt)
	mu := node(api.TMu, "t", node(api.TCon, "N", tree(api.TUnit)), node(api.TCon, "C", tree(api.TPair, i, tname("t"))))
	return []sample{
		{"fn ( x : int ) => a", lam("x", i, a)}, {"fn ( x : t.u -> int * bool ) => a", lam("x", tree(api.TArrow, tname("t.u"), tree(api.TPair, i, tree(api.TBool))), a)}, {"fn ( x : ( int ) ) => ( a )", lam("x", i, a)}, {"fn ( x : mu t { N of unit | C of int * t } ) => a b", lam("x", mu, app(a, b))},
		{"fn ( x : int ) => fn ( x : x ) => a + b = c", lam("x", i, lam("x", tname("x"), eq(add(a, b), c)))}, {"fn ( x : int ) => ( fn ( y : int ) => a ) b", lam("x", i, app(lam("y", i, a), b))},
		{"let x = a in b end", let("x", a, b)}, {"let x = a = b in c = d end", let("x", eq(a, b), eq(c, d))}, {"let x = let x = a in b end in let x = c in d end end", let("x", let("x", a, b), let("x", c, d))}, {"let f = fn ( x : int ) => a in f b end", let("f", lam("x", i, a), app(v("f"), b))},
		{"if a then b else c", iff(a, b, c)}, {"if a < b then c else a + d", iff(less(a, b), c, add(a, d))}, {"if a then b else if c then d else a", iff(a, b, iff(c, d, a))}, {"if if a then b else c then d else a", iff(iff(a, b, c), d, a)}, {"if a then if b then c else d else a", iff(a, iff(b, c, d), a)}, {"if a then fn ( x : int ) => b else c", iff(a, lam("x", i, b), c)},
		{"case a of A x => b end", tree(api.ECase, a, arm("A", "x", b))}, {"case a of A x => b | A x => c | B x => d end", tree(api.ECase, a, arm("A", "x", b), arm("A", "x", c), arm("B", "x", d))}, {"case a = b of A x => if b then c else d | B y => a < b end", tree(api.ECase, eq(a, b), arm("A", "x", iff(b, c, d)), arm("B", "y", less(a, b)))},
		{"case case a of A x => b end of B y => case c of C z => d | D z => a end | E y => a end", tree(api.ECase, tree(api.ECase, a, arm("A", "x", b)), arm("B", "y", tree(api.ECase, c, arm("C", "z", d), arm("D", "z", a))), arm("E", "y", a))},
		{"fold a to int of A x => b end", tree(api.EFold, a, i, arm("A", "x", b))}, {"fold a b to int -> t of A x => fn ( y : t ) => c | B y => d end", tree(api.EFold, app(a, b), tree(api.TArrow, i, tname("t")), arm("A", "x", lam("y", tname("t"), c)), arm("B", "y", d))}, {"fold fold a to t of A x => b end to mu t { N of unit | C of int * t } of B y => c end", tree(api.EFold, tree(api.EFold, a, tname("t"), arm("A", "x", b)), mu, arm("B", "y", c))},
	}
}

// signed puts an expression in signs, so that it is an atom.
func signed(x sample) sample { return sample{"( " + x.s + " )", x.want} }

func length(s string) int { return len(strings.Fields(s)) }

func TestExpressionsOfEachRule(t *testing.T) {
	for _, x := range slices.Concat(atoms(), chains(), loose()) {
		next := length(x.s)
		for _, ahead := range []string{"", "val x =", "( (", "7 = fn ( x :"} {
			at := length(ahead)
			parses(t, ahead+" "+x.s, at, x.want, next+at)
			for _, behind := range []string{")", "}", ",", ":", ":>", "=>", "->", "|", "{", "of", "to", "in", "then", "else", "end", "val", "int", "mu", "type", "fn ( x : int ) => x", "let x = y in z end", "if", "case", "fold"} {
				parses(t, ahead+" "+x.s+" "+behind, at, x.want, next+at)
			}
		}
		parses(t, signed(x).s, 0, x.want, next+2)
	}
}

// What binds tighter may stand where what binds looser is asked; each atom may stand anywhere.
func TestAtomsWhereverAnExpressionMayStand(t *testing.T) {
	a, b := v("a"), v("b")
	i := tree(api.TInt)
	inner := atoms()
	for _, x := range slices.Concat(chains(), loose()) {
		inner = append(inner, signed(x))
	}
	for _, x := range inner {
		for _, y := range []sample{
			{"#1 ?", fst(x.want)}, {"#2 ?", snd(x.want)}, {"a ?", app(a, x.want)}, {"? a", app(x.want, a)}, {"? ?", app(x.want, x.want)}, {"a ? b", app(app(a, x.want), b)},
			{"? * a", mul(x.want, a)}, {"a * ?", mul(a, x.want)}, {"a * ? * b", mul(mul(a, x.want), b)}, {"? + a", add(x.want, a)}, {"a + ?", add(a, x.want)}, {"? - a", sub(x.want, a)}, {"a - ? - b", sub(sub(a, x.want), b)}, {"? = a", eq(x.want, a)}, {"a = ?", eq(a, x.want)}, {"? < ?", less(x.want, x.want)},
			{"( ? )", x.want}, {"( ? , a )", pair(x.want, a)}, {"( a , ? )", pair(a, x.want)}, {"fn ( x : int ) => ?", lam("x", i, x.want)}, {"let x = ? in a end", let("x", x.want, a)}, {"let x = a in ? end", let("x", a, x.want)}, {"if ? then a else b", iff(x.want, a, b)}, {"if a then ? else b", iff(a, x.want, b)}, {"if a then b else ?", iff(a, b, x.want)},
			{"case ? of A x => a end", tree(api.ECase, x.want, arm("A", "x", a))}, {"case a of A x => ? | B x => ? end", tree(api.ECase, a, arm("A", "x", x.want), arm("B", "x", x.want))}, {"fold ? to int of A x => a end", tree(api.EFold, x.want, i, arm("A", "x", a))}, {"fold a to int of A x => b | B x => ? end", tree(api.EFold, a, i, arm("A", "x", b), arm("B", "x", x.want))},
		} {
			s := strings.ReplaceAll(y.s, "?", x.s)
			parses(t, s, 0, y.want, length(s))
		}
	}
}

// What binds loosest may stand without signs where any expression may.
func TestWhatBindsLooserWhereAnyExpressionMayStand(t *testing.T) {
	a, b := v("a"), v("b")
	i := tree(api.TInt)
	for _, x := range slices.Concat(chains(), loose()) {
		for _, y := range []sample{
			{"( ? )", x.want}, {"( ? , a )", pair(x.want, a)}, {"( a , ? )", pair(a, x.want)}, {"fn ( x : int ) => ?", lam("x", i, x.want)}, {"let x = ? in a end", let("x", x.want, a)}, {"let x = a in ? end", let("x", a, x.want)}, {"if ? then a else b", iff(x.want, a, b)}, {"if a then ? else b", iff(a, x.want, b)}, {"if a then b else ?", iff(a, b, x.want)},
			{"case ? of A x => a end", tree(api.ECase, x.want, arm("A", "x", a))}, {"case a of A x => ? | B x => ? end", tree(api.ECase, a, arm("A", "x", x.want), arm("B", "x", x.want))}, {"fold ? to int of A x => ? | B x => b end", tree(api.EFold, x.want, i, arm("A", "x", x.want), arm("B", "x", b))},
		} {
			s := strings.ReplaceAll(y.s, "?", x.s)
			parses(t, s, 0, y.want, length(s))
		}
	}
}

// fn, let, if, case and fold are no operands: without signs none goes on with them, and what is whole ends ahead of them.
func TestWhatIsNoOperandWithoutSigns(t *testing.T) {
	for _, x := range loose() {
		for _, ahead := range []string{"a +", "a -", "a *", "a =", "a <", "#1", "#2", "a #1", "a + b *", "#1 #2", "( a +", "( a , b <", "let x = a * ", "fn ( x : int ) => a b -"} {
			refuses(t, tokensOf(ahead+" "+x.s), 0, length(ahead), api.ErrParse)
		}
		parses(t, "a "+x.s, 0, v("a"), 1)
		parses(t, "a b "+x.s, 0, app(v("a"), v("b")), 2)
		parses(t, "a = b "+x.s, 0, eq(v("a"), v("b")), 3)
		for _, ahead := range []string{"( a", "if a", "let x = a", "case a", "fold a"} {
			refuses(t, tokensOf(ahead+" "+x.s), 0, length(ahead), api.ErrParse)
		}
	}
	for s, at := range map[string]int{"let x = a in b end c": 7, "case a of A x => b end c": 8, "fold a to int of A x => b end ( c )": 10, "let x = a in b end + c": 7, "case a of A x => b end = c": 8, "fold a to int of A x => b end * c": 10} {
		if got := asked(tokensOf(s), 0); got.next != at || got.e != api.OK {
			t.Errorf("%q: %s", s, got.shown())
		}
	}
}

func TestNoComparisonGoesOnBehindAComparison(t *testing.T) {
	a, b := v("a"), v("b")
	for _, sign := range []string{"=", "<"} {
		for _, rest := range []string{"", "c", "c + d", "=", "end"} {
			parses(t, "a = b "+sign+" "+rest, 0, eq(a, b), 3)
			parses(t, "a < b "+sign+" "+rest, 0, less(a, b), 3)
			parses(t, "x a + b < a b "+sign+" "+rest, 1, less(add(a, b), app(a, b)), 7)
			for s, at := range map[string]int{"( a = b": 4, "( a , a < b": 6, "if a = b": 4, "let x = a < b": 6, "let x = a in b = a": 8, "case a = b": 4, "case a of A x => a < b": 9, "fold a = b": 4, "if a then b < b": 6} {
				refuses(t, tokensOf(s+" "+sign+" "+rest), 0, at, api.ErrParse)
			}
			parses(t, "fn ( x : int ) => a = b "+sign+" "+rest, 0, lam("x", tree(api.TInt), eq(a, b)), 10)
			parses(t, "if a then b else a < b "+sign+" "+rest, 0, iff(a, b, less(a, b)), 8)
		}
	}
}

func TestTokensOfATextAreExpressions(t *testing.T) {
	l, _, _ := lexer.Lex("val it=let f=fn(x:int*M.t)=>#1 x-~1 in(*=*)if f(2,M.y)<3 then()else case y of A z=>z|B z=>f z end end val")
	n, next, e := pexpr.Expr(l, 3)
	x, z := v("x"), v("z")
	want := let("f", lam("x", tree(api.TPair, tree(api.TInt), tname("M.t")), sub(fst(x), num(-1))),
		iff(less(app(v("f"), pair(num(2), v("M.y"))), num(3)), tree(api.EUnit), tree(api.ECase, v("y"), arm("A", "z", z), arm("B", "z", app(v("f"), z)))))
	if e != api.OK || next != len(l)-1 || text(n) != text(want) {
		t.Error(text(n), next, int(e))
	}
}

// P7.1: places where there is nothing.

func TestPlacesOfAList(t *testing.T) {
	for _, s := range []string{"", "x", "a = b", "fn ( x : int ) => x"} {
		l := tokensOf(s)
		refuses(t, l, len(l), len(l), api.ErrParse)
		for _, i := range []int{-1, -2, math.MinInt, math.MinInt32, len(l) + 1, len(l) + 2, len(l) + 100, math.MaxInt, math.MaxInt32, 1 << 32, 1<<32 + 1, -1 << 32} {
			refuses(t, l, i, 0, api.ErrArg)
		}
	}
	refuses(t, nil, 0, 0, api.ErrParse)
	refuses(t, []api.Token{}, 0, 0, api.ErrParse)
	refuses(t, nil, 1, 0, api.ErrArg)
	refuses(t, nil, -1, 0, api.ErrArg)
	parses(t, "a + b c", 0, add(v("a"), app(v("b"), v("c"))), 4)
	parses(t, "a + b c", 2, app(v("b"), v("c")), 4)
	parses(t, "a + b c", 3, v("c"), 4)
	refuses(t, tokensOf("a + b c"), 1, 1, api.ErrParse)
	refuses(t, tokensOf(") a"), 0, 0, api.ErrParse)
}

// Of a row that has to go on up to its end, each beginning ends too early.
func TestListsThatEndWhereMoreHasToCome(t *testing.T) {
	for _, s := range []string{
		"( fn ( x : mu t { A of bool * ( t -> M.u ) | B of int } ) => let y = #1 x + 2 in if y = 3 then ( y , ( ) ) else case x of A z => y * ~1 | B z => fold z to int -> t of C u => u end end end )",
		"let x = a in ( b , c ) end", "case a b of A x => a = b | B y => #2 c end", "fold a * b to t * t of A x => fn ( y : t ) => y | B y => true end", "let x = fn ( y : unit ) => false in if x then y else z end",
	} {
		l := tokensOf(s)
		for n := range len(l) {
			refuses(t, l[:n], 0, n, api.ErrParse)
		}
		agrees(t, l)
	}
	for _, s := range []string{
		"(", "( a", "( a ,", "( a , b", "#1", "#2", "#1 #2", "a #1", "a (", "a +", "a -", "a *", "a =", "a <", "a + b *", "a * b -", "a = b +", "a b *",
		"fn", "fn (", "fn ( x", "fn ( x :", "fn ( x : int", "fn ( x : int ->", "fn ( x : int )", "fn ( x : int ) =>", "fn ( x : mu t { A of", "let", "let x", "let x =", "let x = a", "let x = a in", "let x = a in b", "if", "if a", "if a then", "if a then b", "if a then b else",
		"case", "case a", "case a of", "case a of A", "case a of A x", "case a of A x =>", "case a of A x => b", "case a of A x => b |", "case a of A x => b | B", "fold", "fold a", "fold a to", "fold a to int", "fold a to int of", "fold a to int of A", "fold a to int of A x", "fold a to int of A x =>", "fold a to int of A x => b",
	} {
		l := tokensOf(s)
		refuses(t, l, 0, len(l), api.ErrParse)
		refuses(t, append(tokensOf("x x"), l...), 2, len(l)+2, api.ErrParse)
	}
}

func TestTheFirstTokenWithWhichNoneGoesOn(t *testing.T) {
	for s, at := range map[string]int{
		"": 0, "val": 0, "}": 0, "{": 0, ",": 0, ":": 0, "=": 0, "=>": 0, "->": 0, "*": 0, "+": 0, "- 1": 0, "<": 0, "|": 0, "then": 0, "else": 0, "in": 0, "of": 0, "to": 0, "end": 0, "int": 0, "mu": 0, "bool": 0, "unit": 0, "struct": 0, "sig": 0,
		"( ,": 1, "( ; )": 1, "( * )": 1, "( end": 1, "( a b : int )": 3, "( a ; b )": 2, "( a }": 2, "( a , )": 3, "( a , b , c )": 4, "( a , b ;": 4, "( ( a )": 4, "( ( a ) ]": 4, "( a | b )": 2, "( a => b )": 2, "( ( ) , = )": 4, "( a : int )": 2, "( a = b = c )": 4, "( a of b )": 2,
		"#1": 1, "#1 )": 1, "#1 #2": 2, "#1 #2 =": 2, "#1 + a": 1, "#2 * a": 1, "#2 int": 1, "a #1 )": 2, "a #1 #1 * b": 3, "( #2 )": 2, "#1 , a": 1,
		"a + ": 2, "a + + b": 2, "a + - b": 2, "a - )": 2, "a * * b": 2, "a * + b": 2, "a * )": 2, "a = =": 2, "a = < b": 2, "a < )": 2, "a + b * )": 4, "a = b + )": 4, "a b * |": 3, "a + ( b": 4, "a + fn": 2, "a * let": 2, "a = if": 2, "a < case": 2, "a - fold": 2,
		"fn": 1, "fn x": 1, "fn x : int => x": 1, "fn ( )": 2, "fn ( int": 2, "fn ( 7 : int )": 2, "fn ( x.y : int )": 2, "fn ( ( x": 2, "fn ( true : bool": 2, "fn ( x )": 3, "fn ( x => x": 3, "fn ( x = int": 3, "fn ( x y": 3, "fn ( x : )": 4, "fn ( x : 7": 4, "fn ( x : => x": 4, "fn ( x : true": 4, "fn ( x : int": 5, "fn ( x : int =>": 5, "fn ( x : int ->": 6, "fn ( x : int -> )": 6, "fn ( x : int * *": 6, "fn ( x : ( int": 6, "fn ( x : mu t { A of int": 10, "fn ( x : mu t A": 6, "fn ( x : int x )": 5, "fn ( x : int , y : int )": 5,
		"fn ( x : int )": 6, "fn ( x : int ) x": 6, "fn ( x : int ) = x": 6, "fn ( x : int ) -> x": 6, "fn ( x : int ) => )": 7, "fn ( x : int ) => =": 7, "fn ( x : int ) => => x": 7, "fn ( x : int ) => val": 7, "fn ( x : int ) => a +": 9, "fn ( x : int ) => fn x": 8,
		"let": 1, "let =": 1, "let 7 = a": 1, "let x.y = a": 1, "let in = a": 1, "let ( x )": 1, "let val x = a": 1, "let x": 2, "let x a": 2, "let x : int = a": 2, "let x => a": 2, "let x y = a": 2, "let x = in": 3, "let x = = a": 3, "let x = end": 3, "let x = val": 3, "let x = a": 4, "let x = a end": 4, "let x = a ;": 4, "let x = a = b = c": 6, "let x = a in": 5, "let x = a in end": 5, "let x = a in in": 5, "let x = a in b": 6, "let x = a in b in": 6, "let x = a in b )": 6, "let x = a in b , c": 6, "let x = a in let y = b in c end": 12,
		"if": 1, "if then": 1, "if )": 1, "if a": 2, "if a else b": 2, "if a , b": 2, "if a = b = c": 4, "if a then": 3, "if a then else": 3, "if a then then b": 3, "if a then b": 4, "if a then b end": 4, "if a then b then c": 4, "if a then b else": 5, "if a then b else end": 5, "if a then b else else": 5, "if a then if b then c": 7, "if a then if b then c else d": 9, "if if a then b else c": 7,
		"case": 1, "case of": 1, "case )": 1, "case a": 2, "case a end": 2, "case a to int of": 2, "case a = b = c": 4, "case a of": 3, "case a of end": 3, "case a of | A x => b end": 3, "case a of 7 x => b": 3, "case a of ( A x ) => b": 3, "case a of int x => b": 3, "case a of A.B x => b": 3, "case a of A": 4, "case a of A => b": 4, "case a of A 7 => b": 4, "case a of A ( x ) => b": 4, "case a of A x.y => b": 4, "case a of A unit => b": 4, "case a of A | B": 4, "case a of A x": 5, "case a of A x = b": 5, "case a of A x b": 5, "case a of A x y => b": 5, "case a of A x |": 5, "case a of A x =>": 6, "case a of A x => end": 6, "case a of A x => |": 6, "case a of A x => b": 7, "case a of A x => b )": 7, "case a of A x => b ,": 7, "case a of A x => b => c": 7, "case a of A x => b = c = d": 9, "case a of A x => b |": 8, "case a of A x => b | end": 8, "case a of A x => b | | B y => c": 8, "case a of A x => b | B": 9, "case a of A x => b | B => c": 9, "case a of A x => b | B y": 10, "case a of A x => b | B y => ": 11, "case a of A x => b | B.C y => c": 8, "case a of A x => b | B y.z => c": 9, "case a of A x => b | B y c": 10, "case a of A x => b of": 7,
		"fold": 1, "fold to": 1, "fold a": 2, "fold a of A x => b end": 2, "fold a : int": 2, "fold a to": 3, "fold a to of": 3, "fold a to 7": 3, "fold a to true": 3, "fold a to )": 3, "fold a to int": 4, "fold a to int end": 4, "fold a to int to": 4, "fold a to int ->": 5, "fold a to int -> of": 5, "fold a to int t of": 4, "fold a to ( int of": 5, "fold a to int of": 5, "fold a to int of end": 5, "fold a to int of |": 5, "fold a to int of A": 6, "fold a to int of A => b": 6, "fold a to int of A x": 7, "fold a to int of A x => b": 9, "fold a to int of A x => b |": 10, "fold a to int of A x => b | end": 10, "fold a to int of A x => b to": 9, "fold a to int of A.B x": 5, "fold a to int of A x.y": 6, "fold a to mu t { } of": 6,
	} {
		l := tokensOf(s)
		refuses(t, l, 0, at, api.ErrParse)
		for _, ahead := range []string{"( ", "if ", "#1 ( ", "let x = ", "let x = a in ", "fn ( x : t ) => ", "case a of A x => ", "fold a to t of A x => ", "a * ( b , "} {
			far := length(ahead)
			refuses(t, tokensOf(ahead+s), 0, at+far, api.ErrParse)
			refuses(t, tokensOf("x = "+ahead+s), far+2, at+far+2, api.ErrParse)
		}
	}
}

// P7.1: errors of types.

// placesOfTypes are rows with a type at the end.
func placesOfTypes() []string {
	return []string{"fn ( x :", "fold a to", "( fn ( x :", "let x = fold a to", "case fn ( x :", "case a of A x => b | B y => fold c to", "a ( b , fn ( x :", "if a then fold ( ) to", "fn ( x : mu t { A of int } ) => fn ( x : ", "fold fold a to mu t { A of int } of A x => x end to", "fn ( x : t ->", "fold a to ( t * "}
}

func TestConstructorsThatStandTwiceInATypeWithin(t *testing.T) {
	for s, at := range map[string]int{
		"mu t { A of int | A of int }": 7, "mu t { A of int | B of int | A of int": 11, "mu t { A of int | A": 7, "mu t { A of int | A )": 7, "mu t { A of mu t { A of int | B of t | B of t } }": 16, "int -> mu t { A of int | A of": 9, "( mu t { A of int } * mu t { A of int | A of int } )": 16,
	} {
		for _, ahead := range placesOfTypes() {
			refuses(t, tokensOf(ahead+" "+s), 0, at+length(ahead), api.ErrTwice)
			refuses(t, tokensOf(ahead+" "+s+" ) => a + end"), 0, at+length(ahead), api.ErrTwice)
			refuses(t, append(tokensOf("= ="), tokensOf(ahead+" "+s)...), 2, at+length(ahead)+2, api.ErrTwice)
		}
	}
}

func TestTheErrorThatComesFirstIsTold(t *testing.T) {
	for s, at := range map[string]int{"mu t { A A | A of int | A of int": 4, "mu t { A of int | | A of int": 7, "mu t { A of -> | A of int": 5, "int -> )": 2, "mu t { A of int A of int": 6, "mu t { A of int | A.A of int | A of int": 7, "mu t { A of int ) | A of int": 6} {
		for _, ahead := range placesOfTypes() {
			refuses(t, tokensOf(ahead+" "+s), 0, at+length(ahead), api.ErrParse)
		}
	}
	refuses(t, tokensOf("fn ( x , y : mu t { A of int | A of int }"), 0, 3, api.ErrParse)
	refuses(t, tokensOf("let x = a b : fn ( x : mu t { A of int | A of int }"), 0, 5, api.ErrParse)
	parses(t, "a fn ( x : mu t { A of int | A of int }", 0, v("a"), 1)
	refuses(t, tokensOf("fold a to int of A x => b | B y => fn ( x : mu t { C of int | C of int } ) => ) ) )"), 0, 24, api.ErrTwice)
}

// Each constructor's name may stand again but in one type, and in arms.
func TestNamesThatMayStandAgain(t *testing.T) {
	for _, s := range []string{
		"fn ( x : mu t { A of int } ) => fn ( x : mu t { A of int } ) => x", "fn ( x : mu t { A of int } * mu t { A of int } ) => A", "fold x to mu A { A of A } of A A => A | A A => A end", "case x of A x => x | A x => x | B x => x | A y => x end", "case x of x x => let x = x in fn ( x : x ) => x end end",
	} {
		l := tokensOf(s)
		if got := asked(l, 0); got != (answer{exprText(l), len(l), api.OK}) {
			t.Errorf("%q: %s", s, got.shown())
		}
	}
}

// P7.1: numbers, and names.

// placesOfAtoms are rows with an atom in the place of ?, and whether a row is whole without it.
func placesOfAtoms() map[string]bool {
	return map[string]bool{
		"?": false, "a ?": true, "( ?": false, "( a , ? )": false, "#1 ?": false, "#2 #1 ?": false, "a * ?": false, "a + ? * b": false, "a - ?": false, "a = ?": false, "a + b < ? c": false, "let x = ? in a end": false, "let x = a in ? end": false, "if ? then a else b": false, "if a then ? else b": false, "if a then b else ?": false, "fn ( x : int ) => ?": false,
		"case ? of A x => a end": false, "case a of A x => ? end": false, "case a of A x => a | B y => ? end": false, "fold ? to int of A x => a end": false, "fold a to int of A x => ? end": false, "( a ) ?": true, "a + b ?": true, "a = b c ?": true, "let x = a in b end ?": true,
	}
}

// put tells a row's tokens, with another one in the place of ?, and that place.
func put(row string, x api.Token) ([]api.Token, int) {
	l := tokensOf(row)
	i := slices.IndexFunc(l, func(t api.Token) bool { return t.Text == "?" })
	l[i] = x
	return l, i
}

// isNoAtom asks that no expression goes on with a token where an atom may stand.
func isNoAtom(t *testing.T, x api.Token) {
	t.Helper()
	for row, whole := range placesOfAtoms() {
		l, at := put(row, x)
		if got := asked(l, 0); whole && (got.next != at || got.e != api.OK) {
			t.Errorf("%q, with %v: %s", row, x, got.shown())
		}
		if !whole {
			refuses(t, l, 0, at, api.ErrParse)
			refuses(t, l[:at+1], 0, at, api.ErrParse)
			refuses(t, append(make([]api.Token, 3), l...), 3, at+3, api.ErrParse)
		}
		agrees(t, l)
	}
}

// isAtom asks that an expression goes on with a token where an atom may stand.
func isAtom(t *testing.T, x api.Token, want *api.Node) {
	t.Helper()
	for row := range placesOfAtoms() {
		l, at := put(row, x)
		if got := asked(l, at); got.e != api.OK || got.next <= at || !strings.Contains(got.tree, text(want)) {
			t.Errorf("%q, with %v, at %d: %s", row, x, at, got.shown())
		}
		agrees(t, l)
	}
}

func TestNumbersThatMayBeAndOthers(t *testing.T) {
	for _, n := range []int{0, 1, -1, 7, 1<<30 - 1, 1 << 30, -1<<30 + 1, -1 << 30} {
		isAtom(t, api.Token{Kind: api.TkInt, N: n, Text: lexer.Number(n)}, num(n))
	}
	for _, n := range []int{1<<30 + 1, -1<<30 - 1, 1 << 31, -1 << 31, 1<<31 - 1, 1 << 32, 1<<32 + 7, -1<<32 - 7, math.MaxInt, math.MinInt, math.MinInt + 1} {
		isNoAtom(t, api.Token{Kind: api.TkInt, N: n, Text: lexer.Number(n)})
	}
}

// The chapter speaks of a TkInt's N alone: it is the number that is told.
func TestOfANumberTheNCounts(t *testing.T) {
	isAtom(t, api.Token{Kind: api.TkInt, N: 5, At: -3}, num(5))
	isAtom(t, api.Token{Kind: api.TkInt, N: 5, Text: "6", At: 1 << 40}, num(5))
	isNoAtom(t, api.Token{Kind: api.TkInt, N: 1<<30 + 1, Text: "6"})
}

func textsOfNoName() []string {
	l := []string{
		"", ".", "..", "a.", ".a", "a..b", "a.b.", ".a.b", "a.b..c", "7", "7a", "'", "'a", "a.7", "a.'b", "~7", "a b", "a ", " a", "a. b", "a\n", "(", ")", "#1", "->", "=>", "a->b", "a*b", "\x00", "a\x00", "\xff", "a\xff", "\xc3", "\ufffd", "a.\ufffd", "\xed\xa0\x80",
		strings.Repeat("a", 33), "a." + strings.Repeat("a", 33), strings.Repeat("a", 33) + ".a", strings.Repeat("\u00e9", 16) + "a", strings.Repeat("abcdefg.", 16), strings.Repeat("abcdefg.", 15) + "abcdefghi", strings.Repeat("a.", 64) + "a", strings.Repeat("a", 129),
	}
	for _, s := range words {
		l = append(l, s, "a."+s, s+".a")
	}
	return l
}

func textsOfNames() []string {
	return []string{"a", "_", "A9'", "int'", "fn1", "\u00e9", "x'''", strings.Repeat("a", 32), strings.Repeat("\u00e9", 16)}
}

func textsOfSeveral() []string {
	return []string{"a.b", "a.a", "a.b.c", "_._'", "int'.vals", "\u00e9.\u0080.x1", strings.Repeat("a", 32) + ".b", strings.Repeat("abcdefg.", 15) + "abcdefgh", strings.Repeat("a.", 63) + "aa"}
}

func TestNamesWhereAnAtomMayStand(t *testing.T) {
	for _, s := range slices.Concat(textsOfNames(), textsOfSeveral()) {
		isAtom(t, api.Token{Kind: api.TkName, Text: s}, v(s))
	}
	for _, s := range textsOfNoName() {
		isNoAtom(t, api.Token{Kind: api.TkName, Text: s})
	}
}

// placesOfNames are rows with a name without a dot in the place of ?, and more such places behind it.
func placesOfNames() []string {
	return []string{
		"fn ( ? : int ) => a", "( fn ( ? : int ) => a )", "fn ( x : int ) => fn ( ? : int ) => a", "let ? = a in b end", "let x = let ? = a in b end in c end", "let x = a in let ? = b in c end end", "fn ( x : mu ? { A of int } ) => a", "fn ( x : mu t { ? of int } ) => a", "fn ( x : mu t { A of int | ? of int } ) => a", "fold a to mu ? { A of int } of A x => a end",
		"case a of ? x => b end", "case a of A ? => b end", "case a of A x => b | ? y => c end", "case a of A x => b | B ? => c | C z => d end", "case a of A x => case b of ? y => c end end", "fold a to int of ? x => b end", "fold a to int of A ? => b end", "fold a to int of A x => b | ? y => c end", "fold a to int of A x => b | B ? => c end", "if a then let ? = b in c end else d",
	}
}

func TestNoNameWhereOneIsAsked(t *testing.T) {
	for _, row := range placesOfNames() {
		for _, s := range slices.Concat(textsOfNoName(), textsOfSeveral()) {
			l, at := put(row, api.Token{Kind: api.TkName, Text: s})
			refuses(t, l, 0, at, api.ErrParse)
			refuses(t, l[:at+1], 0, at, api.ErrParse)
			refuses(t, append(make([]api.Token, 3), l...), 3, at+3, api.ErrParse)
		}
		for _, x := range []api.Token{{Kind: api.TkInt, N: 7, Text: "7"}, {Kind: api.TkInt, Text: "x"}, {Kind: api.TkKey, Text: "x"}, {Kind: 0, Text: "x"}, {Kind: 4, Text: "x"}, {Kind: api.TkKey, Text: "int"}, {Kind: api.TkKey, Text: "("}} {
			l, at := put(row, x)
			refuses(t, l, 0, at, api.ErrParse)
		}
	}
}

func TestNamesWhereTheyAreAsked(t *testing.T) {
	for _, row := range placesOfNames() {
		plain, _ := put(row, api.Token{Kind: api.TkName, Text: "anyone"})
		want := oracle(plain, 0)
		for _, s := range textsOfNames() {
			l, _ := put(row, api.Token{Kind: api.TkName, Text: s})
			if got := asked(l, 0); got.tree != strings.ReplaceAll(want.tree, strconv.Quote("anyone"), strconv.Quote(s)) || got.next != len(l) || got.e != api.OK {
				t.Errorf("%q, with %q: %s", row, s, got.shown())
			}
		}
	}
}

// P7.1: tokens of other kinds.

func TestTokensOfAnotherKind(t *testing.T) {
	for _, s := range []string{
		"( a )", "( a , b )", "( )", "#1 a", "#2 a", "true", "false", "7", "a.b", "a + b", "a - b", "a * b", "a = b", "a < b", "f a", "fn ( x : int ) => a", "let x = a in b end", "if a then b else c", "case a of A x => b | B y => c end", "fold a to int * t of A x => b | B y => c end", "fn ( x : mu t { A of int | B of ( unit -> t ) } ) => #1 ( 7 , x )",
	} {
		l := tokensOf(s)
		for i := range l {
			for _, kind := range []int{0, 1, 2, 3, 4, -1, 9, math.MinInt, math.MaxInt, 1<<32 + 1, 1<<32 + 3, -1 << 32} {
				other := slices.Clone(l)
				other[i].Kind = kind
				agrees(t, other)
				if kind < 1 || kind > 3 {
					if got := asked(other, 0); got.next != i {
						t.Errorf("%q, kind %d at %d: %s", s, kind, i, got.shown())
					}
				}
			}
		}
	}
	for _, x := range []api.Token{{}, {Kind: api.TkKey}, {Kind: api.TkName}, {Kind: 4, Text: "x"}, {Kind: -1, Text: "x"}, {Kind: api.TkKey, Text: "x"}, {Kind: api.TkKey, Text: "7", N: 7}, {Kind: api.TkName, Text: "true"}, {Kind: 0, Text: "true"}, {Kind: api.TkName, Text: "7", N: 7}, {Kind: 0, N: 7}, {Kind: 1<<32 + 2, N: 7}, {Kind: api.TkKey, Text: "TRUE"}, {Kind: api.TkKey, Text: "true "}, {Kind: api.TkKey, Text: "( )"}, {Kind: api.TkKey, Text: "#"}, {Kind: api.TkKey, Text: "#3"}} {
		isNoAtom(t, x)
	}
}

// P7.1, held against the oracle.

// eachRow hands on each row with which an expression goes on, with one token more: up to most in all.
func eachRow(most int, tokens []api.Token, f func(row []api.Token)) {
	table := grammar()
	var grow func(row []api.Token, symbols string)
	grow = func(row []api.Token, symbols string) {
		for _, x := range tokens {
			longer := append(slices.Clone(row), x)
			f(longer)
			if more := behind(table, symbols, x); len(more) > 0 && len(longer) < most {
				grow(longer, more[0])
			}
		}
	}
	f(nil)
	grow(nil, "EXPR")
}

func TestAllShortRows(t *testing.T) {
	at := func(row []api.Token) { agreesAt(t, row, 0) }
	odd := []api.Token{{Kind: 9, Text: "("}, {Kind: api.TkName, Text: "("}, {Kind: api.TkName}, {Kind: api.TkKey, Text: "x"}, {Kind: api.TkInt, N: 1<<30 + 1}}
	all := append(tokensOf("x a.b 7 true ( ) , #1 + * = < fn let in if then else case of to fold end | => : int mu { }"), odd...)
	eachRow(4, all, at)
	eachRow(7, tokensOf("x ( ) , #1 + * ="), at)
	eachRow(9, tokensOf("x - * <"), at)
	eachRow(9, tokensOf("x fn ( : ) =>"), at)
	eachRow(12, tokensOf("x let = in end"), at)
	eachRow(10, tokensOf("x if then else"), at)
	eachRow(11, tokensOf("x case of => | end"), at)
	eachRow(11, tokensOf("x fold to of => end"), at)
}

// Of rows in which all rules stand: each token is left out, doubled, and has each other one ahead of it, or in its place.
func TestAWrongTokenAtEachPlace(t *testing.T) {
	others := tokensOf("x a.b 7 true ( ) , #1 + * = < fn let in if then else case of to fold end | => : int -> mu { } val")
	for _, s := range []string{
		"fn ( x : mu t { A of bool * ( t -> M.u ) | B of int } ) => let y = #1 x + 2 * z in if y - 1 = 3 then ( y , ( ) ) else case x of A z => f y ~1 | B z => z < ( a ) end end",
		"fold case f ( x , true ) of A y => y | B y => #2 #1 y end to int * t -> u of C z => let u = fold a to t of A x => x end in u end | D z => if a then fn ( y : t ) => y else ( ) end",
	} {
		l := tokensOf(s)
		agrees(t, l)
		for i := range l {
			agrees(t, l[:i])
			agreesAt(t, slices.Delete(slices.Clone(l), i, i+1), 0)
			agreesAt(t, slices.Insert(slices.Clone(l), i, l[i]), 0)
			for _, x := range others {
				agreesAt(t, slices.Insert(slices.Clone(l), i, x), 0)
				other := slices.Clone(l)
				other[i] = x
				agreesAt(t, other, 0)
			}
		}
	}
}

// What is parsed of any tokens is an expression by layer 5, and is written, and parsed again.
func TestWhatIsParsedIsAnExpression(t *testing.T) {
	tokens := tokensOf("x a.b 7 ( ) , #1 + * = if then else fn : int =>")
	for _, s := range []string{"", "int", "a.", "7"} {
		tokens = append(tokens, api.Token{Kind: api.TkName, Text: s})
	}
	tokens = append(tokens, api.Token{Kind: api.TkInt, N: 1<<30 + 1, Text: "1"}, api.Token{Kind: api.TkInt, N: -3})
	parsed := 0
	eachRow(5, tokens, func(row []api.Token) {
		n, next, e := pexpr.Expr(row, 0)
		if e != api.OK {
			return
		}
		parsed++
		if e := shape.Expr(n); e != api.OK {
			t.Fatalf("%q: %s, %d: %d", shown(row), text(n), next, int(e))
		}
		s, _ := pexpr.Write(n)
		again(t, n, s)
	})
	if parsed < 500 {
		t.Error(parsed)
	}
}

// P7.1: many tokens, and many above one another.

func tokensOfMany(n int, row string) []api.Token { return slices.Repeat(tokensOf(row), n) }

func TestLongRows(t *testing.T) {
	many := 1 << 17
	for _, x := range []struct {
		part         string
		kind, number int
	}{{"x", api.EApp, 0}, {"x +", api.EOp, 1}, {"x -", api.EOp, 2}, {"x *", api.EOp, 3}} {
		l := append(tokensOfMany(many, x.part), tokensOf("x ;")...)
		n, next, e := pexpr.Expr(l, 0)
		if e != api.OK || next != len(l)-1 {
			t.Fatal(x, next, int(e))
		}
		for range many {
			if n.Kind != x.kind || n.N != x.number || len(n.Kids) != 2 {
				t.Fatal(x, n)
			}
			if n.Kids[1].Name != "x" {
				t.Fatal(x, n.Kids[1])
			}
			n = n.Kids[0]
		}
		if n.Kind != api.EVar {
			t.Error(x, n)
		}
		if x.kind != api.EApp {
			refuses(t, l[:len(l)-2], 0, len(l)-2, api.ErrParse)
		}
	}
	l := append(tokensOfMany(many, "#1 #2"), tokensOf("x x")...)
	if n, next, e := pexpr.Expr(l, 0); e != api.OK || next != len(l) || n.Kind != api.EApp || n.Kids[0].Kind != api.EFst {
		t.Error(next, int(e))
	}
	refuses(t, l[:len(l)-2], 0, len(l)-2, api.ErrParse)
}

func TestManyArms(t *testing.T) {
	l := append(tokensOf("case x of"), tokensOfMany(1<<17, "A x => x |")...)
	n, next, e := pexpr.Expr(append(slices.Clone(l), tokensOf("A x => x end end")...), 0)
	if e != api.OK || next != len(l)+5 || len(n.Kids) != 1<<17+2 {
		t.Error(next, int(e))
	}
	refuses(t, l, 0, len(l), api.ErrParse)
}

func TestDeepRows(t *testing.T) {
	many := 1 << 16
	for _, x := range []struct{ opening, closing string }{
		{"(", ")"}, {"( x ,", ")"}, {"(", ", x )"}, {"x (", ")"}, {"x * (", ") + x"}, {"#1 (", ")"}, {"x = (", ")"}, {"fn ( x : int ) =>", ""}, {"let x = x in", "end"}, {"let x =", "in x end"}, {"if", "then x else x"}, {"if x then", "else x"}, {"if x then x else", ""}, {"case x of A x =>", "end"}, {"case", "of A x => x end"}, {"case x of A x => x | B x =>", "| C x => x end"}, {"fold x to int of A x =>", "end"}, {"fold", "to int of A x => x end"},
	} {
		opening, closing := tokensOfMany(many, x.opening), tokensOfMany(many, x.closing)
		l := slices.Concat(opening, tokensOf("x"), closing, tokensOf(";"))
		if n, next, e := pexpr.Expr(l, 0); n == nil || next != len(l)-1 || e != api.OK {
			t.Error(x, next, int(e))
		}
		refuses(t, opening, 0, len(opening), api.ErrParse)
		if x.closing != "" {
			refuses(t, l[:len(l)-2], 0, len(l)-2, api.ErrParse)
		}
	}
	l := slices.Concat(tokensOf("fn ( x :"), tokensOfMany(many, "("), tokensOf("int"), tokensOfMany(many, ")"), tokensOf(") => x"))
	parsesLong(t, l)
	l = slices.Concat(tokensOf("fold x to"), tokensOfMany(many, "t -> "), tokensOf("int of A x => x end"))
	parsesLong(t, l)
}

func parsesLong(t *testing.T, l []api.Token) {
	t.Helper()
	if n, next, e := pexpr.Expr(l, 0); n == nil || next != len(l) || e != api.OK {
		t.Error(next, int(e))
	}
}

// P7.2 and P7.3.

// writes asks for an expression's text, and parses it again.
func writes(t *testing.T, n *api.Node, want string) {
	t.Helper()
	s, e := pexpr.Write(n)
	if s != want || e != api.OK {
		t.Errorf("%.300s: %.300q, %d, not %.300q", text(n), s, int(e), want)
		return
	}
	again(t, n, s)
}

// again parses what is written: by its tokens, and as a text, alone and among others.
func again(t *testing.T, n *api.Node, s string) {
	t.Helper()
	l := tokensOf(s)
	if got := asked(l, 0); got != (answer{text(n), len(l), api.OK}) {
		t.Fatalf("%.300q: %s, not %.300s", s, got.shown(), text(n))
	}
	if len(s) > api.MaxSource-20 {
		return
	}
	lexed, _, e := lexer.Lex("val x = " + s + " val")
	if got := asked(lexed, 3); e != api.OK || got != (answer{text(n), len(l) + 3, api.OK}) || lexed[len(lexed)-1].Text != "val" {
		t.Fatalf("%.300q: %s, not %.300s", s, got.shown(), text(n))
	}
}

func TestWriteOfEachForm(t *testing.T) {
	for _, x := range slices.Concat(chains(), loose()) {
		if !slices.Contains([]string{"fn ( x : ( int ) ) => ( a )", "( a b ) ( c d )", "( a * b ) * c"}, x.s) { // those have signs that are not needed
			writes(t, x.want, x.s)
		}
	}
	for s, n := range map[string]*api.Node{
		"7": num(7), "~7": num(-7), "0": num(0), "1073741824": num(1 << 30), "~1073741824": num(-1 << 30), "true": {Kind: api.EBool, N: 1}, "false": tree(api.EBool), "( )": tree(api.EUnit), "x": v("x"), "M.N.x'": v("M.N.x'"),
		"( x , 7 )": pair(v("x"), num(7)), "( ( ) , ( ) )": pair(tree(api.EUnit), tree(api.EUnit)), "( ( x , y ) , ( z , 1 ) )": pair(pair(v("x"), v("y")), pair(v("z"), num(1))), "( f x , a = b )": pair(app(v("f"), v("x")), eq(v("a"), v("b"))), "( fn ( x : int ) => x , if a then b else c )": pair(lam("x", tree(api.TInt), v("x")), iff(v("a"), v("b"), v("c"))), "( let x = a in b end , case a of A x => b end )": pair(let("x", v("a"), v("b")), tree(api.ECase, v("a"), arm("A", "x", v("b")))),
		"#1 x": fst(v("x")), "#2 ( x , y )": snd(pair(v("x"), v("y"))), "#1 #2 #1 x": fst(snd(fst(v("x")))), "#1 ( f x )": fst(app(v("f"), v("x"))), "#1 f x": app(fst(v("f")), v("x")), "#2 ( a + b )": snd(add(v("a"), v("b"))), "#1 ( )": fst(tree(api.EUnit)), "#1 ( a * b )": fst(mul(v("a"), v("b"))), "#1 ( a = b )": fst(eq(v("a"), v("b"))),
	} {
		writes(t, n, s)
	}
}

// In each place where an operand stands, each form has just the signs that it needs there.
func TestSignsAroundWhatBindsLooser(t *testing.T) {
	x, y := v("x"), v("y")
	forms := []struct {
		n    *api.Node
		s    string
		rule int
	}{
		{lam("x", tname("t"), x), "fn ( x : t ) => x", 0}, {let("x", x, y), "let x = x in y end", 0}, {iff(x, x, y), "if x then x else y", 0}, {tree(api.ECase, x, arm("A", "x", y)), "case x of A x => y end", 0}, {tree(api.EFold, x, tname("t"), arm("A", "x", y)), "fold x to t of A x => y end", 0},
		{eq(x, y), "x = y", 1}, {less(x, y), "x < y", 1}, {add(x, y), "x + y", 2}, {sub(x, y), "x - y", 2}, {mul(x, y), "x * y", 3}, {app(x, y), "x y", 4}, {fst(x), "#1 x", 5}, {snd(x), "#2 x", 5}, {pair(x, y), "( x , y )", 5}, {tree(api.EUnit), "( )", 5}, {num(-1), "~1", 5}, {v("M.x"), "M.x", 5}, {tree(api.EBool), "false", 5},
	}
	places := []struct {
		make func(n *api.Node) *api.Node
		s    string
		rule int
	}{
		{func(n *api.Node) *api.Node { return lam("x", tname("t"), n) }, "fn ( x : t ) => ?", 0}, {func(n *api.Node) *api.Node { return let("x", n, y) }, "let x = ? in y end", 0}, {func(n *api.Node) *api.Node { return let("x", y, n) }, "let x = y in ? end", 0}, {func(n *api.Node) *api.Node { return iff(n, x, y) }, "if ? then x else y", 0}, {func(n *api.Node) *api.Node { return iff(x, n, y) }, "if x then ? else y", 0}, {func(n *api.Node) *api.Node { return iff(x, y, n) }, "if x then y else ?", 0},
		{func(n *api.Node) *api.Node { return tree(api.ECase, n, arm("A", "x", y)) }, "case ? of A x => y end", 0}, {func(n *api.Node) *api.Node { return tree(api.ECase, x, arm("A", "x", n), arm("B", "x", n)) }, "case x of A x => ? | B x => ? end", 0}, {func(n *api.Node) *api.Node { return tree(api.EFold, n, tname("t"), arm("A", "x", y)) }, "fold ? to t of A x => y end", 0}, {func(n *api.Node) *api.Node { return tree(api.EFold, x, tname("t"), arm("A", "x", n)) }, "fold x to t of A x => ? end", 0}, {func(n *api.Node) *api.Node { return pair(n, y) }, "( ? , y )", 0}, {func(n *api.Node) *api.Node { return pair(y, n) }, "( y , ? )", 0},
		{func(n *api.Node) *api.Node { return eq(n, y) }, "? = y", 2}, {func(n *api.Node) *api.Node { return eq(y, n) }, "y = ?", 2}, {func(n *api.Node) *api.Node { return less(n, y) }, "? < y", 2}, {func(n *api.Node) *api.Node { return less(y, n) }, "y < ?", 2},
		{func(n *api.Node) *api.Node { return add(n, y) }, "? + y", 2}, {func(n *api.Node) *api.Node { return add(y, n) }, "y + ?", 3}, {func(n *api.Node) *api.Node { return sub(n, y) }, "? - y", 2}, {func(n *api.Node) *api.Node { return sub(y, n) }, "y - ?", 3}, {func(n *api.Node) *api.Node { return mul(n, y) }, "? * y", 3}, {func(n *api.Node) *api.Node { return mul(y, n) }, "y * ?", 4},
		{func(n *api.Node) *api.Node { return app(n, y) }, "? y", 4}, {func(n *api.Node) *api.Node { return app(y, n) }, "y ?", 5}, {fst, "#1 ?", 5}, {snd, "#2 ?", 5},
	}
	for _, form := range forms {
		for _, place := range places {
			inner := form.s
			if form.rule < place.rule {
				inner = "( " + inner + " )"
			}
			writes(t, place.make(form.n), strings.ReplaceAll(place.s, "?", inner))
		}
	}
}

// Types are written as layer 6 writes them.
func TestTypesWithinAreWritten(t *testing.T) {
	i, u := tree(api.TInt), tname("t.u")
	mu := node(api.TMu, "t", node(api.TCon, "N", tree(api.TUnit)), node(api.TCon, "C", tree(api.TArrow, i, tname("t"))))
	for _, n := range []*api.Node{i, tree(api.TBool), tree(api.TUnit), u, tree(api.TArrow, i, u), tree(api.TArrow, tree(api.TArrow, i, u), u), tree(api.TPair, tree(api.TPair, i, u), i), tree(api.TPair, i, tree(api.TPair, i, u)), tree(api.TPair, tree(api.TArrow, i, u), mu), mu} {
		s := typed(n)[0]
		writes(t, lam("x", n, v("x")), "fn ( x : "+s+" ) => x")
		writes(t, tree(api.EFold, v("x"), n, arm("A", "x", v("x"))), "fold x to "+s+" of A x => x end")
		writes(t, fst(lam("x", n, lam("y", n, v("x")))), "#1 ( fn ( x : "+s+" ) => fn ( y : "+s+" ) => x )")
	}
}

// exprsOf tells all expressions of at most n nodes (types not counted) of some leaves, with one name, type and constructor.
func exprsOf(n int, leaves ...*api.Node) []*api.Node {
	all := [][]*api.Node{nil, leaves}
	t := tname("t")
	for size := 2; size <= n; size++ {
		var l []*api.Node
		for _, a := range all[size-1] {
			l = append(l, fst(a), lam("x", t, a))
		}
		for of := 1; of < size-1; of++ {
			for _, a := range all[of] {
				for _, b := range all[size-1-of] {
					l = append(l, app(a, b), pair(a, b), let("x", a, b), sub(a, b), mul(a, b), eq(a, b), tree(api.ECase, a, arm("A", "x", b)))
				}
			}
		}
		for i := 1; i < size-2; i++ {
			for j := 1; i+j < size-1; j++ {
				for _, a := range all[i] {
					for _, b := range all[j] {
						for _, c := range all[size-1-i-j] {
							l = append(l, iff(a, b, c), tree(api.EFold, a, t, arm("A", "x", b), arm("A", "x", c)))
						}
					}
				}
			}
		}
		all = append(all, l)
	}
	return slices.Concat(all...)
}

func TestJustTheSignsThatTheGrammarNeeds(t *testing.T) {
	l := slices.Concat(exprsOf(6, v("x")), exprsOf(3, num(-1), tree(api.EBool), tree(api.EUnit), v("a.b")))
	for _, n := range l {
		want, many := shortest(n)
		if many != 1 {
			t.Fatal(text(n), many)
		}
		writes(t, n, want)
	}
	if len(l) < 2000 {
		t.Error(len(l))
	}
}

// What is written of larger ones is parsed again, and no pair of signs may be left out.
func TestNoSignsMayBeLeftOut(t *testing.T) {
	for _, n := range exprsOf(6, v("x")) {
		s, e := pexpr.Write(n)
		if e != api.OK {
			t.Fatal(text(n), int(e))
		}
		again(t, n, s)
		l := tokensOf(s)
		for i := range l {
			if l[i].Text != "(" {
				continue
			}
			end := atomEnd(l, i) - 1
			fewer := slices.Concat(l[:i], l[i+1:end], l[end+1:])
			if asked(fewer, 0) == (answer{text(n), len(fewer), api.OK}) {
				t.Fatalf("%q: signs at %d", s, i)
			}
		}
	}
}

// chain puts n nodes on top of a tree: each has the one below as its kid at a place.
func chain(n int, top *api.Node, at int, low *api.Node) *api.Node {
	for range n {
		x := *top
		x.Kids = slices.Clone(top.Kids)
		x.Kids[at] = low
		low = &x
	}
	return low
}

// deepExprs tells expressions of n nodes above one another, of each form that has kids.
func deepExprs(n int) []*api.Node {
	x, i := v("x"), tree(api.TInt)
	inType := chain(n-2, tree(api.TArrow, i, i), 0, i)
	inArms := x
	for range (n - 1) / 2 {
		inArms = tree(api.ECase, x, arm("A", "x", inArms))
	}
	if n%2 == 0 {
		inArms = fst(inArms)
	}
	return []*api.Node{
		chain(n-1, app(x, x), 0, x), chain(n-1, app(x, x), 1, x), chain(n-1, pair(x, x), 0, x), chain(n-1, pair(x, x), 1, x), chain(n-1, fst(x), 0, x), chain(n-1, snd(x), 0, x), chain(n-1, lam("x", i, x), 1, x), chain(n-1, let("x", x, x), 0, x), chain(n-1, let("x", x, x), 1, x), chain(n-1, iff(x, x, x), 0, x), chain(n-1, iff(x, x, x), 1, x), chain(n-1, iff(x, x, x), 2, x),
		chain(n-1, add(x, x), 0, x), chain(n-1, sub(x, x), 1, x), chain(n-1, mul(x, x), 0, x), chain(n-1, mul(x, x), 1, x), chain(n-1, eq(x, x), 0, x), chain(n-1, less(x, x), 1, x), chain(n-2, tree(api.ECase, x, arm("A", "x", x)), 0, x), chain(n-2, tree(api.EFold, x, i, arm("A", "x", x)), 0, x), lam("x", inType, x), tree(api.EFold, x, inType, arm("A", "x", x)), inArms,
	}
}

func TestExpressionsAtTheLimits(t *testing.T) {
	for _, n := range []int{58, 59, 60} {
		for _, x := range deepExprs(n) {
			if s, e := pexpr.Write(x); e == api.OK {
				again(t, x, s)
			} else {
				t.Error(n, int(e))
			}
		}
	}
	writes(t, chain(59, mul(v("x"), num(1)), 0, v("y")), "y"+strings.Repeat(" * 1", 59))
	writes(t, chain(59, mul(num(1), v("x")), 1, v("y")), strings.Repeat("1 * ( ", 58)+"1 * y"+strings.Repeat(" )", 58))
	writes(t, chain(59, sub(v("x"), num(1)), 0, v("y")), "y"+strings.Repeat(" - 1", 59))
	for _, n := range []int{61, 62, 64, 127} {
		for _, x := range deepExprs(n) {
			isNotWritten(t, x, api.ErrDeep)
		}
	}
	long := strings.Repeat("abcdefg.", 15) + "abcdefgh"
	short := strings.Repeat("a", 32)
	writes(t, v(long), long)
	isNotWritten(t, v(long+"i"), api.ErrForm)
	writes(t, lam(short, tname(long), v(long)), "fn ( "+short+" : "+long+" ) => "+long)
	writes(t, let(short, v(short), num(1<<30)), "let "+short+" = "+short+" in 1073741824 end")
	writes(t, tree(api.ECase, v("x"), arm(short, short, num(-1<<30))), "case x of "+short+" "+short+" => ~1073741824 end")
	for _, n := range []*api.Node{lam(short+"a", tname("t"), v("x")), let(short+"a", v("x"), v("x")), tree(api.ECase, v("x"), arm(short+"a", "x", v("x"))), tree(api.ECase, v("x"), arm("A", short+"a", v("x"))), num(1<<30 + 1), num(-1<<30 - 1), num(math.MaxInt), num(math.MinInt)} {
		isNotWritten(t, n, api.ErrForm)
	}
}

func TestTheMostNodes(t *testing.T) {
	long := strings.Repeat("abcdefg.", 15) + "abcdefgh"
	n := tree(api.ECase, v("x"))
	for len(n.Kids) < 4096 {
		n.Kids = append(n.Kids, arm("A", "x", v(long)))
	}
	writes(t, n, "case x of "+strings.Repeat("A x => "+long+" | ", 4094)+"A x => "+long+" end")
	n.Kids[4095] = arm("A", "x", fst(v("x"))) // 1 + 1 + 4094 * 2 + 3 = 8193
	isNotWritten(t, n, api.ErrLong)
	n.Kids = n.Kids[:4095]
	n.Kids[4094] = arm("A", "x", app(v("x"), v("y"))) // 1 + 1 + 4093 * 2 + 4 = 8192
	writes(t, n, "case x of "+strings.Repeat("A x => "+long+" | ", 4093)+"A x => x y end")
	full := v("x")
	for range 12 {
		full = sub(full, full)
	}
	if s, e := pexpr.Write(full); e == api.OK && strings.Count(s, "x") == 4096 && strings.Count(s, "(") == 2047 {
		again(t, full, s)
	} else {
		t.Error(len(s), int(e))
	}
	isNotWritten(t, sub(full, full), api.ErrLong)
	isNotWritten(t, chain(1<<16, fst(v("x")), 0, v("x")), api.ErrLong)
}

// isNotWritten asks for the error of a tree that is not written.
func isNotWritten(t *testing.T, n *api.Node, want api.Errno) {
	t.Helper()
	if s, e := pexpr.Write(n); s != "" || e != want {
		t.Errorf("%.200q, %d, not %d", s, int(e), int(want))
	}
}

func TestTreesThatAreNoExpressionsAreNotWritten(t *testing.T) {
	x, i := v("x"), tree(api.TInt)
	for _, n := range []*api.Node{nil, app(x, nil), pair(nil, x), tree(api.EUnit, nil), lam("x", nil, x), lam("x", tree(api.TArrow, i, nil), x), tree(api.ECase, x, nil), tree(api.ECase, x, arm("A", "x", nil)), tree(api.TInt, nil), tree(api.MStruct, nil)} {
		isNotWritten(t, n, api.ErrNil)
	}
	for _, n := range []*api.Node{
		tree(0), tree(-1), tree(99), tree(math.MinInt), tree(math.MaxInt), tree(1<<32 + api.EUnit), i, tname("t"), tree(api.MStruct), tree(api.SBody), tree(api.Prog), node(api.DVal, "x", x), node(api.PVal, "x", i), node(api.MPath, "x"), tree(api.CInt), tree(api.XUnit), arm("A", "x", x),
		app(x, i), app(x, arm("A", "x", x)), tree(api.EApp), tree(api.EApp, x), tree(api.EApp, x, x, x), tree(api.EUnit, x), node(api.EUnit, "x"), {Kind: api.EUnit, N: 1}, {Kind: api.EBool, N: 2}, {Kind: api.EBool, N: -1}, {Kind: api.EVar, Name: "x", N: 1}, {Kind: api.EVar, Name: "x", Mark: "y"}, node(api.EVar, "x", x), node(api.EInt, "x"), tree(api.EInt, x),
		op(0, x, x), op(6, x, x), op(-1, x, x), op(math.MaxInt, x, x), op(1<<32+1, x, x), {Kind: api.EOp, N: 1, Kids: []*api.Node{x}}, {Kind: api.EOp, N: 1, Name: "x", Kids: []*api.Node{x, x}}, fst(i), tree(api.EFst), tree(api.ESnd, x, x), pair(x, i), tree(api.EPair, x), iff(x, x, i), tree(api.EIf, x, x), tree(api.EIf, x, x, x, x),
		lam("x", x, x), lam("x", i, i), lam("a.b", i, x), lam("", i, x), node(api.ELam, "x", i), let("a.b", x, x), let("", x, x), let("x", x, i), node(api.ELet, "x", x), node(api.ELet, "x", x, x, x),
		tree(api.ECase), tree(api.ECase, x), tree(api.ECase, x, x), tree(api.ECase, arm("A", "x", x)), tree(api.ECase, x, arm("a.b", "x", x)), tree(api.ECase, x, arm("A", "a.b", x)), tree(api.ECase, x, arm("A", "", x)), tree(api.ECase, x, arm("", "x", x)), tree(api.ECase, x, arm("A", "x", i)), tree(api.ECase, x, i, arm("A", "x", x)), tree(api.ECase, x, arm("A", "x", x), x),
		tree(api.EFold, x), tree(api.EFold, x, i), tree(api.EFold, x, arm("A", "x", x)), tree(api.EFold, x, x, arm("A", "x", x)), tree(api.EFold, i, x, arm("A", "x", x)), tree(api.EFold, x, i, arm("A", "x", x), i), lam("x", node(api.TMu, "t", node(api.TCon, "A", i), node(api.TCon, "A", i)), x), lam("x", node(api.TCon, "A", i), x),
		v(""), v("."), v("a."), v("7"), v("a b"), v("\xff"), v("#1"), pair(x, tree(0)),
	} {
		isNotWritten(t, n, api.ErrForm)
	}
	for _, s := range words {
		for _, n := range []*api.Node{v(s), v("a." + s), v(s + ".a"), lam(s, i, x), let(s, x, x), lam("x", tname(s), x), tree(api.ECase, x, arm(s, "x", x)), tree(api.ECase, x, arm("A", s, x))} {
			isNotWritten(t, n, api.ErrForm)
		}
		writes(t, v(s+"'."+s+"1"), s+"'."+s+"1")
	}
}

// Of trees that lie in themselves no more is promised than that the call ends.
func TestWriteEndsOnTreesThatLieInThemselves(t *testing.T) {
	n := pair(v("x"), nil)
	n.Kids[1] = n
	isNotWritten(t, n, api.ErrLong)
}

// Rule 4.

// Behind a list's length stand tokens that would go on.
func TestTokensStayAsTheyWere(t *testing.T) {
	for _, s := range []string{"fn ( x : int -> mu t { A of int | B of t } ) => let y = #1 x in if y then ( y , z ) else ( ) end + 2", "case a b of A x => a * b | B y => fold c to t of C z => z end end", "a + b * c = d e < f", "( ( (", "x ( y", "7 )", "fn ( x : mu t { A of int | A of int"} {
		l := tokensOf(s)
		kept := slices.Clone(l)
		for n := range len(l) + 1 {
			for i := -1; i <= n+1; i++ {
				first := asked(l[:n], i)
				if want := oracle(slices.Clone(l[:n]), i); first != want || first != asked(l[:n], i) {
					t.Errorf("%q at %d: %s, not %s", shown(l[:n]), i, first.shown(), want.shown())
				}
			}
		}
		if !slices.Equal(l, kept) {
			t.Errorf("%q became %q", s, shown(l))
		}
	}
}

// What is made of a list stays as it was when the list is changed.
func TestTreesKeepNoTokens(t *testing.T) {
	l := tokensOf("fold a.b to mu t { A of int } of A x => ( 7 , true ) | B y => fn ( z : t.u ) => z + 1 end")
	n, _, _ := pexpr.Expr(l, 0)
	was := text(n)
	clear(l)
	if text(n) != was {
		t.Error(text(n))
	}
}

// Two answers, and two places of one, have no node and no list in common.
func TestAnswersAreNew(t *testing.T) {
	l := tokensOf("case f x - 1 - 2 of A x => ( x , ( ) ) | B x => #1 #2 x = 3 | C x => fn ( y : int * int ) => fold y to t of A x => 1 * 2 * 3 | B x => if true then false else let z = z in z end end end")
	a, _, _ := pexpr.Expr(l, 0)
	b, _, _ := pexpr.Expr(l, 0)
	met := map[*api.Node]bool{}
	var walk func(n *api.Node)
	walk = func(n *api.Node) {
		if met[n] {
			t.Error(text(n))
		}
		met[n] = true
		for _, kid := range n.Kids {
			walk(kid)
		}
	}
	walk(a)
	walk(b)
	for n := range met {
		_ = append(n.Kids, tree(99))
	}
	if text(a) != exprText(l) || text(b) != exprText(l) {
		t.Error(text(a), text(b))
	}
}

func TestExpressionsStayAsTheyWere(t *testing.T) {
	l := append(exprsOf(5, v("x")), arm("A", "x", v("x")), pair(tree(0), v("x")), chain(70, fst(v("x")), 0, v("x")), lam("x", tree(api.TArrow, tree(api.TInt), tname("t")), num(3)))
	for _, n := range l {
		spare := spared(n)
		was := text(n)
		first, e := pexpr.Write(spare)
		s, f := pexpr.Write(spare)
		if s != first || f != e || text(spare) != was || !sparedStill(spare) {
			t.Error(was, s, first)
		}
	}
}

// spared tells a tree that is the same, in which each list of kids has something behind its length.
func spared(n *api.Node) *api.Node {
	x := *n
	x.Kids = nil
	for _, kid := range n.Kids {
		x.Kids = append(x.Kids, spared(kid))
	}
	x.Kids = append(x.Kids, tree(99), nil)[:len(n.Kids)]
	return &x
}

func sparedStill(n *api.Node) bool {
	behind := n.Kids[len(n.Kids) : len(n.Kids)+2]
	return behind[0].Kind == 99 && behind[1] == nil && !slices.ContainsFunc(n.Kids, func(kid *api.Node) bool { return !sparedStill(kid) })
}
