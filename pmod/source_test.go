package pmod_test

import (
	"slices"
	"strings"
	"testing"

	"marquetry/api"
	"marquetry/pmod"
	"marquetry/shape"
)

// source_test.go asks of programs' texts.

func read(s string) answer {
	n, at, e := pmod.Source(s)
	return answer{text(n), at, e}
}

// reads asks for a program's declarations.
func reads(t *testing.T, s string, decls ...*api.Node) {
	t.Helper()
	if got := read(s); got != (answer{text(tree(api.Prog, decls...)), 0, api.OK}) {
		t.Errorf("%.300q: %s, not %.300q", s, got.shown(), textsOf(decls))
	}
}

// isNotRead asks for a text's error and place.
func isNotRead(t *testing.T, s string, at int, e api.Errno) {
	t.Helper()
	if got := read(s); got != (answer{"", at, e}) {
		t.Errorf("%.300q: %s, not %d, %d", s, got.shown(), at, int(e))
	}
}

// P8.2: programs.

func TestExample(t *testing.T) {
	reads(t, "structure M = F(N) :> S where type t = int", structure("M", seal(1, app("F", path("N")), where("t", sname("S"), tint()))))
}

func TestEmptyTexts(t *testing.T) {
	for _, s := range []string{"", " ", "\n", "\t \n\n", "(**)", "(* val x = *)", " (* (* *) *)\n"} {
		reads(t, s)
	}
}

func TestProgramsOfEachDeclaration(t *testing.T) {
	all := slices.Concat(decls(), tops())
	var texts []string
	var trees []*api.Node
	for _, x := range all {
		reads(t, x.s, x.want)
		reads(t, "\n"+x.s+" ", x.want)
		for _, y := range all {
			reads(t, x.s+"\n"+y.s+"\n", x.want, y.want)
		}
		texts, trees = append(texts, x.s), append(trees, x.want)
	}
	reads(t, strings.Join(texts, " "), trees...)
	reads(t, strings.Join(texts, "\n\n"), trees...)
	for _, x := range slices.Concat(prims(), seals()) {
		reads(t, "structure A = "+x.s, structure("A", x.want))
	}
	for _, x := range sigs() {
		reads(t, "signature A = "+x.s, node(api.DSig, "A", x.want))
	}
	for _, x := range specs() {
		reads(t, "signature A = sig "+x.s+" end", node(api.DSig, "A", body(x.want)))
	}
}

// P8.2 and P8.3: what stands between tokens.

// spelled writes tokens with texts between, ahead and behind, and tells where each begins, and where the text ends.
func spelled(l []api.Token, between func(i int) string) (string, []int) {
	s := between(0)
	var places []int
	for i, x := range l {
		places = append(places, len(s))
		s += x.Text + between(i+1)
	}
	return s, append(places, len(s))
}

// separators are texts that may stand between tokens.
func separators() []string {
	return []string{" ", "\n", "\t", "  \n\t ", "(**)", " (* a *) ", "\n(* val x = $ ) end \u00e9 *)\n", "(*(**)(*(* *)*)*)", "(***)", "(* ( * ) *) (* \" *)"}
}

// wantOfText tells what is asked of a text that has just those tokens.
func wantOfText(l []api.Token, places []int) answer {
	want := oracle("TOPS", l, 0)
	if want.e == api.OK && want.next < len(l) {
		want.e = api.ErrParse
	}
	if want.e != api.OK {
		return answer{"", places[want.next], want.e}
	}
	return answer{nodeText(api.Prog, 0, "", "", declTexts(l)...), 0, api.OK}
}

// spellings asks of tokens in many spellings.
func spellings(t *testing.T, l []api.Token) {
	t.Helper()
	all := separators()
	for n, one := range all {
		for _, between := range []func(i int) string{func(int) string { return one }, func(i int) string { return all[(i*7+n)%len(all)] }} {
			s, places := spelled(l, between)
			if got, want := read(s), wantOfText(l, places); got != want {
				t.Fatalf("%q: %s, not %s", s, got.shown(), want.shown())
			}
		}
	}
}

func TestBlanksAndCommentsChangeNothing(t *testing.T) {
	spellings(t, nil)
	for _, x := range slices.Concat(decls(), tops()) {
		spellings(t, tokensOf(x.s))
		spellings(t, tokensOf("open M "+x.s+" val x = ~7 "+x.s))
	}
	for _, s := range richRows() {
		spellings(t, tokensOf(s)) // modules and signatures alone are no programs, in no spelling
		spellings(t, tokensOf("structure A = "+s))
		spellings(t, tokensOf("signature A = "+s))
	}
	tight := "structure A=struct val x:int*int=(1,~2)val f=fn(x:M.t)=>#1 x end:>sig val x:int*int end functor F(X:S where type t=int->int)=G(X:S):S datatype t=A of int|B of mu t{A of t}open A"
	loose := "structure A = struct val x : int * int = ( 1 , ~2 ) val f = fn ( x : M.t ) => #1 x end :> sig val x : int * int end functor F ( X : S where type t = int -> int ) = G ( X : S ) : S datatype t = A of int | B of mu t { A of t } open A"
	if got, want := read(tight), read(loose); got != want || got.e != api.OK {
		t.Error(got.shown(), want.shown())
	}
}

// P8.2: places of errors.

func TestPlacesInATextThatIsNoProgram(t *testing.T) {
	for s, at := range map[string]int{
		"val": 3, "val ": 4, "val\n\n": 5, "val (* x *)": 11, " val": 4, "x": 0, " x": 1, "\n\tx": 2, "(* x *)x": 7, "val x 1": 6, "val x = 1 end": 10, "val x=1)": 7, "structure M = struct signature S = T end": 21, "structure M = A.F ( N )": 18, "structure M=A.F(N)": 15,
		"open M N": 7, "open M\nopen": 11, "open M,": 6, "open (M)": 5, "end": 0, "7": 0, "struct end": 0, "sig end": 0, "(M)": 0, "val x = \u00e9 )": 11, "(* \u00e9\u4e00 *) val": 15, "val \u00e9 = \u00e9 \u00e9 : int": 15, "signature S = sig val x : int": 29, "signature S = sig val x : int\n": 30, "functor F(X:S)": 14, "functor F(X:S) X": 15, "functor F(X.Y:S)=X": 10, "type t = a.b = c": 13,
		"val x = 1073741824 : int": 19, "open val": 5, "sharing type t = u": 0, "where type t = int": 0, "structure M = M : S.T": 18, "structure M = M :> (* *) (S)": 25, "include M where type t = int": 10,
	} {
		isNotRead(t, s, at, api.ErrParse)
		isNotRead(t, "(*\u00e9*)"+s, at+6, api.ErrParse)
		isNotRead(t, "open M open N\n"+s, at+14, api.ErrParse)
	}
	for s, at := range map[string]int{
		"datatype t = A of int | A of int": 24, "datatype t=A of int|A": 20, "datatype t=A of int|(* A *)A|": 27, "signature S = sig datatype t = \u00e9 of int | \u00e9 of int end": 43, "type t = mu t { A of int | A of int }": 27, "val x = fn (x : mu t {A of t|B of t|A of t}) => )": 36, "structure M = struct datatype t = A of int | A of int": 45,
	} {
		isNotRead(t, s, at, api.ErrTwice)
		isNotRead(t, "(*\u00e9*)"+s, at+6, api.ErrTwice)
		isNotRead(t, s+" ) ) end", at, api.ErrTwice)
	}
}

// Tokens of all rows that the oracle knows, and what is left behind them.
func TestPlacesOfAllShortRows(t *testing.T) {
	all := separators()
	n := 0
	for _, x := range []struct {
		most   int
		tokens string
	}{{5, "X X.Y 7 ( ) : :> = struct end sig where type val datatype structure signature functor open include sharing of | -> int"}, {9, "X type = int val end"}, {9, "X structure = struct end ( )"}, {14, "X Y datatype = of |"}} {
		eachRow("TOPS", x.most, tokensOf(x.tokens), func(row []api.Token) {
			n++
			s, places := spelled(row, func(i int) string { return all[(i*3+n)%len(all)] })
			if got, want := read(s), wantOfText(row, places); got != want {
				t.Fatalf("%q: %s, not %s", s, got.shown(), want.shown())
			}
		})
	}
	if n < 5000 {
		t.Error(n)
	}
}

// A token that is left is told at its place, however many are whole ahead of it.
func TestTokensThatAreLeftBehindATextsDeclarations(t *testing.T) {
	for s, at := range left() {
		l := tokensOf(s)
		for _, ahead := range []string{"", "open M", "signature S = T", "functor F ( X : S ) = X"} {
			row := slices.Concat(tokensOf(ahead), l)
			if slices.ContainsFunc(row, func(x api.Token) bool { return x.Text == "." }) { // the lexer knows none
				continue
			}
			text, places := spelled(row, func(int) string { return " " })
			isNotRead(t, text, places[length(ahead)+at], api.ErrParse)
		}
	}
	for _, x := range slices.Concat(decls(), tops()) {
		for _, behind := range []string{")", "}", ",", "=>", "of", "end", "sharing", "sig", "struct", "then", "int"} {
			isNotRead(t, x.s+" "+behind, len(x.s)+1, api.ErrParse)
		}
	}
}

func TestTextsThatAreNoTokens(t *testing.T) {
	for s, at := range map[string]int{
		"$": 0, "val x = $": 8, "open M ; open N": 7, "val x = 'a": 8, "val x = \"a\"": 8, "open M.val": 5, "open M. N": 5, "open .M": 5, "val x = 1073741825": 8, "val x = 7a": 8, "val x = ~": 8, "(* val x = 1": 0, "val x = (* 1": 8, "val x = 1 (* (* *)": 10, "val x = #3 y": 8, "open \u00e9.": 5, "\u00e9\u00e9 $": 5, "val " + strings.Repeat("a", 33) + " = 1": 4,
	} {
		isNotRead(t, s, at, api.ErrLex)
		isNotRead(t, ") "+s, at+2, api.ErrLex) // the lexer's error is told, though tokens ahead are no program
		isNotRead(t, "val = datatype t = A of int | A of int "+s, at+39, api.ErrLex)
	}
	for s, at := range map[string]int{"\xff": 0, "val x = 1\x00": 9, "open M\r\n": 6, "val x = \ufffd": 8, "(* \x7f *)": 3, "\u00e9 \xc3": 3, "val val $ \xff": 10} {
		isNotRead(t, s, at, api.ErrText)
	}
}

func TestTextsAtTheLexersLimit(t *testing.T) {
	for _, s := range []string{"open M", "val x = 1 + 2", "structure A = struct end", ""} {
		full := s + strings.Repeat(" ", api.MaxSource-len(s))
		if got := read(full); got != read(s) || got.e != api.OK {
			t.Error(got.shown())
		}
		isNotRead(t, full+" ", 0, api.ErrLong)
		isNotRead(t, full+"\n", 0, api.ErrLong)
		isNotRead(t, ") $ \xff"+full, 0, api.ErrLong)
	}
	isNotRead(t, "val"+strings.Repeat("\n", api.MaxSource-3), api.MaxSource, api.ErrParse)
	isNotRead(t, strings.Repeat("(", 1<<20), 0, api.ErrLong)
	many := strings.Repeat("open M ", 2340)
	n, at, e := pmod.Source(many)
	if e != api.OK || at != 0 || len(n.Kids) != 2340 {
		t.Error(at, int(e))
	}
}

// P8.2: the limits of trees.

// sums is a text of n nodes, the root among them, of which no more than 42 lie above one another.
func sums(n int) string {
	rest := n - 1
	s := ""
	for rest >= 80 {
		s += "val x=1" + strings.Repeat("+1", 39) + " "
		rest -= 80
	}
	return s + strings.Repeat("open M ", rest)
}

func sizeOf(n *api.Node) int {
	size := 1
	for _, kid := range n.Kids {
		size += sizeOf(kid)
	}
	return size
}

func deepOf(n *api.Node) int {
	deep := 0
	for _, kid := range n.Kids {
		deep = max(deep, deepOf(kid))
	}
	return deep + 1
}

func TestTheMostNodes(t *testing.T) {
	for _, n := range []int{1, 2, 80, 81, 1000, 8190, 8191, 8192} {
		tree, at, e := pmod.Source(sums(n))
		if e != api.OK || at != 0 || sizeOf(tree) != n || shape.Prog(tree) != api.OK {
			t.Error(n, at, int(e))
		}
	}
	for _, n := range []int{8193, 8194, 9000} {
		isNotRead(t, sums(n), 0, api.ErrLong)
	}
	for _, s := range []string{"structure A = M : S", "signature S = T where type t = int", "functor F ( X : S ) = X", "datatype t = A of int | B of t", "type t = int * int", "include M", "signature S = sig type t end", "val x : int = f ( y , 7 )"} {
		one, _, _ := pmod.Source(s)
		more := sizeOf(one) - 1
		tree, at, e := pmod.Source(sums(8192-more) + s)
		if e != api.OK || at != 0 || sizeOf(tree) != 8192 {
			t.Error(s, at, int(e))
		}
		isNotRead(t, sums(8193-more)+s, 0, api.ErrLong)
		isNotRead(t, s+" "+sums(8193-more), 0, api.ErrLong)
	}
}

// deepTexts are texts with n nodes above one another, in each way that goes down by one node.
func deepTexts(n int) []string {
	up := func(low int, ahead, inner, behind string) string { // low nodes lie there in any case
		return strings.Repeat(ahead, n-low) + inner + strings.Repeat(behind, n-low)
	}
	return []string{
		"val x = " + up(3, "#1 ", "x", ""), "val x = " + up(3, "", "x", " + 1"), "val x = " + up(3, "", "x", " x"), "val x = " + up(3, "( x , ", "x", " )"), "val x = " + up(3, "fn ( x : int ) => ", "x", ""), "val x = " + up(3, "let y = ", "x", " in x end"), "open M val x : " + up(3, "int -> ", "int", "") + " = 7",
		"type t = " + up(3, "", "int", " * int"), "type t = " + up(3, "(", "int", " -> int )"), "datatype t = A of int | B of " + up(4, "", "int", " * int"), "structure A = " + up(3, "", "M", " : S"), "structure A = " + up(3, "", "M", " :> S"), "structure A = " + up(3, "F ( ", "M", " )"), "structure A = M : " + up(4, "", "S", " where type t = int"), "structure A = struct open M val x = " + up(5, "#2 ", "x", "") + " end",
		"signature S = " + up(3, "", "S", " where type t = int"), "signature S = sig type t val x : " + up(5, "t * ", "t", "") + " end", "functor F ( X : S ) = " + up(3, "F (", "X", ")"), "functor F ( X : " + up(3, "", "S", " where type t = int") + " ) = X", "signature S = sig structure X : " + up(5, "", "S", " where type t = int") + " end", "signature S = sig include " + up(5, "", "S", " where type t = int") + " end",
		"signature S = S where type t = " + up(4, "t -> ", "t", ""),
	}
}

// twoByTwo are texts with n nodes above one another, n being odd, in ways that go down by two nodes.
func twoByTwo(n int) []string {
	times := (n - 3) / 2
	return []string{
		"structure A = " + strings.Repeat("struct structure A = ", times) + "M" + strings.Repeat(" end", times), "signature S = " + strings.Repeat("sig structure X : ", times) + "S" + strings.Repeat(" end", times), "signature S = " + strings.Repeat("sig include ", times) + "S" + strings.Repeat(" end", times), "functor F ( X : S ) = " + strings.Repeat("struct structure A = ", times) + "X" + strings.Repeat(" end", times),
	}
}

func TestTheMostNodesAboveOneAnother(t *testing.T) {
	for _, n := range []int{7, 30, 58, 59, 60} {
		for _, s := range deepTexts(n) {
			isReadDeep(t, s, n)
		}
	}
	for _, n := range []int{7, 57, 59} {
		for _, s := range twoByTwo(n) {
			isReadDeep(t, s, n)
		}
	}
	for _, n := range []int{61, 62, 63, 100, 300} {
		for _, s := range deepTexts(n) {
			isNotRead(t, s, 0, api.ErrDeep)
			isNotRead(t, "open M "+s+" type t = int", 0, api.ErrDeep)
		}
	}
	for _, n := range []int{61, 63, 301} {
		for _, s := range twoByTwo(n) {
			isNotRead(t, s, 0, api.ErrDeep)
		}
	}
	for _, s := range []string{"val x = " + strings.Repeat("(", 1000) + "x" + strings.Repeat(")", 1000), "structure A = " + strings.Repeat("(", 8000) + "M" + strings.Repeat(")", 8000)} { // signs are no nodes
		if got := read(s); got.e != api.OK {
			t.Error(got.shown())
		}
	}
}

func isReadDeep(t *testing.T, s string, deep int) {
	t.Helper()
	n, at, e := pmod.Source(s)
	if e != api.OK || at != 0 || deepOf(n) != deep || shape.Prog(n) != api.OK {
		t.Errorf("%.300q: %d, %d", s, at, int(e))
	}
}

// Of a text that has both too many nodes, and too many above one another, it is told that they are too many.
func TestWhichLimitIsTold(t *testing.T) {
	isNotRead(t, "val x=1"+strings.Repeat("+1", 8000), 0, api.ErrLong)
	isNotRead(t, "val x=1"+strings.Repeat("+1", 4095), 0, api.ErrLong) // 1 + 1 + 8191 nodes
	isNotRead(t, "val x=1"+strings.Repeat("+1", 4094), 0, api.ErrDeep)
	deep := "val x = " + strings.Repeat("#1 ", 100) + "x"
	for _, s := range []string{sums(8193-102) + deep, deep + "\n" + sums(8193-102), sums(9000) + deep} {
		isNotRead(t, s, 0, api.ErrLong)
	}
	isNotRead(t, sums(8192-102)+deep, 0, api.ErrDeep)
	isNotRead(t, sums(60)+deep, 0, api.ErrDeep)
}

// What is no program is told so, be it too large or not.
func TestErrorsOfTokensAheadOfLimits(t *testing.T) {
	deep := "val x = " + strings.Repeat("#1 ", 100) + "x"
	for _, s := range []string{deep, sums(9000), sums(9000) + deep} {
		isNotRead(t, s+" )", len(s)+1, api.ErrParse)
		isNotRead(t, s+" val", len(s)+4, api.ErrParse)
		isNotRead(t, s+" datatype t = A of int | A", len(s)+25, api.ErrTwice)
		isNotRead(t, s+" $", len(s)+1, api.ErrLex)
		isNotRead(t, s+"\xff", len(s), api.ErrText)
	}
	isNotRead(t, "structure A = "+strings.Repeat("( ", 4000), 8014, api.ErrParse)
	isNotRead(t, strings.Repeat("structure A=struct ", 800), 15200, api.ErrParse)
}

// P8.3.

func TestWhatIsReadHasAProgramsForm(t *testing.T) {
	texts := []string{"", "signature S = sig type t val x : t datatype d = A of unit structure X : sig end include T where type u = int sharing type t = X.u end\nfunctor F ( X : S ) = struct type t = X.t val y : t = X.x end :> T\nstructure M = struct structure N = struct end open N include N datatype l = N of unit | C of int * l val z = F end\nstructure P = F ( M : S :> T )\n"}
	for _, x := range slices.Concat(decls(), tops()) {
		texts = append(texts, x.s, x.s+" "+x.s)
	}
	for _, long := range []string{strings.Repeat("a", 32), strings.Repeat("abcdefg.", 15) + "abcdefgh"} {
		texts = append(texts, "open "+long, "val x = "+long, "type t = "+long, "structure A = "+long, "signature S = T where type "+long+" = int", "signature S = sig sharing type "+long+" = "+long+" end")
	}
	for _, s := range texts {
		n, _, e := pmod.Source(s)
		if e != api.OK || shape.Prog(n) != api.OK {
			t.Errorf("%q: %d", s, int(e))
		}
	}
}

// Two readings of a text have no node in common, and the one is as the other.
func TestReadingsAreNew(t *testing.T) {
	s := "structure A = struct val x : int = 7 end :> S where type t = int"
	a, _, _ := pmod.Source(s)
	b, _, _ := pmod.Source(s)
	was := text(a)
	var spoil func(n *api.Node)
	spoil = func(n *api.Node) {
		for _, kid := range n.Kids {
			spoil(kid)
		}
		*n = api.Node{Kind: 99}
	}
	spoil(b)
	if text(a) != was || read(s) != (answer{was, 0, api.OK}) {
		t.Error(text(a))
	}
}
