package print_test

import (
	"fmt"
	"slices"
	"strings"
	"testing"

	"marquetry/api"
	"marquetry/lexer"
	"marquetry/pmod"
	"marquetry/print"
)

// program_test.go asks of programs' texts, and of what texts are read as.

// P9.2.

// lengths parts a number of bytes into some that a declaration or specification with a long name may have.
func lengths(n int) []int {
	var l []int
	for n > 0 {
		bytes := min(n, 100)
		if n > 100 && n < 200 { // else too few may be left
			bytes = n / 2
		}
		l = append(l, bytes)
		n -= bytes
	}
	return l
}

// longProgram is a program of so many bytes, and its text.
type longProgram struct {
	n    *api.Node
	want string
}

// longPrograms tells programs of n bytes, of many declarations and of one.
func longPrograms(n int) []longProgram {
	var lines, opens, shares []*api.Node
	var all, opened, shared string
	for _, bytes := range lengths(n) {
		lines = append(lines, open(longName(bytes-6)))
		all += "open " + longName(bytes-6) + "\n"
	}
	for _, bytes := range lengths(n - len("structure A = struct end\n")) {
		opens = append(opens, open(longName(bytes-6)))
		opened += " open " + longName(bytes-6)
	}
	for _, bytes := range lengths(n - len("signature S = sig end\n")) {
		shares = append(shares, marked(api.PShare, "t", longName(bytes-18)))
		shared += " sharing type t = " + longName(bytes-18)
	}
	return []longProgram{
		{tree(api.Prog, lines...), all}, {tree(api.Prog, node(api.DStruct, "A", str(opens...))), "structure A = struct" + opened + " end\n"}, {tree(api.Prog, node(api.DSig, "S", body(shares...))), "signature S = sig" + shared + " end\n"},
	}
}

func TestTheLongestProgram(t *testing.T) {
	for _, n := range []int{100, 150, 1000, 16382, 16383, 16384} {
		for _, x := range longPrograms(n) {
			if s, e := print.Prog(x.n); s != x.want || len(s) != n || e != api.OK {
				t.Error(n, len(s), len(x.want), int(e))
			}
			isPlain(t, "prog", x.want, x.n)
		}
	}
	for _, n := range []int{16385, 16386, 16387, 20000, 100000} {
		for _, x := range longPrograms(n) {
			if s, e := print.Prog(x.n); s != "" || e != api.ErrLong || len(x.want) != n {
				t.Error(n, len(s), len(x.want), int(e))
			}
			one := x.n.Kids[0]
			if s, e := print.Decl(one); s+"\n" != x.want[:len(s)+1] || e != api.OK { // a declaration alone has no bound
				t.Error(n, len(s), int(e))
			}
		}
	}
}

// A program's text is what its declarations' are, each with a line's end behind it.
func TestAProgramsLines(t *testing.T) {
	var all []*api.Node
	want := ""
	for _, x := range decls() {
		all = append(all, x.n)
		s, _ := print.Decl(x.n)
		want += s + "\n"
	}
	if s, e := print.Prog(tree(api.Prog, all...)); s != want || e != api.OK {
		t.Errorf("%q, not %q", s, want)
	}
	if s, e := print.Prog(tree(api.Prog)); s != "" || e != api.OK {
		t.Error(s, int(e))
	}
}

// P9.3.

// canonIs asks what a text is, as it is written.
func canonIs(t *testing.T, s, want string) {
	t.Helper()
	if got, at, e := print.Canon(s); got != want || at != 0 || e != api.OK {
		t.Errorf("%.300q: %.300q, %d, %d, not %.300q", s, got, at, int(e), want)
	}
}

// hasNone asks for a text's error and place.
func hasNone(t *testing.T, s string, at int, e api.Errno) {
	t.Helper()
	if got, gotAt, gotE := print.Canon(s); got != "" || gotAt != at || gotE != e {
		t.Errorf("%.300q: %.300q, %d, %d, not %d, %d", s, got, gotAt, int(gotE), at, int(e))
	}
}

func TestExample(t *testing.T) { canonIs(t, "val x=(1)", "val x = 1\n") }

func TestTextsOfNothing(t *testing.T) {
	for _, s := range []string{"", " ", "\n", "\t \n\n", "(**)", "(* val x = *)", " (* (* \u00e9 *) *)\n", strings.Repeat(" ", 16384), "(*" + strings.Repeat("a", 16380) + "*)"} {
		canonIs(t, s, "")
	}
}

func TestSignsThatTheGrammarDoesNotNeed(t *testing.T) {
	for s, want := range map[string]string{
		"structure A=(M)": "structure A = M", "structure A=(((M.N)))": "structure A = M.N", "structure A=(F((M)))": "structure A = F ( M )", "structure A=F((G((M)):S))": "structure A = F ( G ( M ) : S )", "structure A=((M:S):>T)": "structure A = M : S :> T", "structure A=(struct end):S": "structure A = struct end : S", "structure A=struct structure B=(M:S)end": "structure A = struct structure B = M : S end",
		"functor F(X:S)=(X:>S)": "functor F ( X : S ) = X :> S", "type t=((int)*(bool*(unit)))->(int->(t))": "type t = int * bool * unit -> int -> t", "type t=(int*int)*int": "type t = ( int * int ) * int", "val x:(int)=((f)(x))": "val x : int = f x", "val x=(f)(g(x))": "val x = f ( g x )", "val x=(a*b)*c+(d)": "val x = a * b * c + d", "val x=a*(b*c)": "val x = a * ( b * c )", "val x=((a,(b,c)))": "val x = ( a , ( b , c ) )", "val x=(())": "val x = ( )",
		"signature S=T where type t=(int)": "signature S = T where type t = int", "signature S=sig datatype t=A of(int)|B of(t->t)end": "signature S = sig datatype t = A of int | B of t -> t end", "datatype t=A of((t*t))": "datatype t = A of t * t", "val x=~007": "val x = ~7", "val x=#1 #2(y)": "val x = #1 #2 y", "val x=fn(y:(int))=>(y)": "val x = fn ( y : int ) => y",
	} {
		canonIs(t, s, want+"\n")
		canonIs(t, s+" "+s, want+"\n"+want+"\n")
		canonIs(t, "open M"+"\n"+s+" open M", "open M\n"+want+"\nopen M\n")
	}
}

// spelled writes tokens with texts between, ahead and behind.
func spelled(l []api.Token, between []string, from int) string {
	s := between[from%len(between)]
	for i, x := range l {
		s += x.Text + between[(from+i+1)*7%len(between)]
	}
	return s
}

// Blanks, comments and lines of the text leave no trace.
func TestSpellings(t *testing.T) {
	between := []string{" ", "\n", "\t", "  \n\t ", "(**)", " (* a *) ", "\n(* val x = $ ) end \u00e9 *)\n", "(*(**)(*(* *)*)*)"}
	for _, x := range programs() {
		if len(x.want) < 1500 {
			l := tokens(x.want)
			for from := range between {
				canonIs(t, spelled(l, between, from), x.want)
				canonIs(t, spelled(l, between[from:from+1], 0), x.want)
			}
		}
	}
	for c := range strings.SplitSeq("mod sig spec", " ") {
		for _, x := range samplesOf(c) {
			row := map[string]string{"mod": "structure A = " + x.want, "sig": "signature A = " + x.want, "spec": "signature A = sig " + x.want + " end"}[c]
			canonIs(t, spelled(tokens(row), between, len(row)), row+"\n")
		}
	}
}

func TestTextsThatAreNoProgram(t *testing.T) {
	for s, at := range map[string]int{
		"val": 3, "val ": 4, "val\n\n": 5, " val": 4, "x": 0, "\n\tx": 2, "(* x *)x": 7, "val x 1": 6, "val x = 1 end": 10, "val x=1)": 7, "structure M = struct signature S = T end": 21, "structure M=A.F(N)": 15, "end": 0, "struct end": 0, "sig end": 0, "(M)": 0, "type t": 6, "datatype t": 10, "signature S = S.T": 14, "signature S = ( S )": 14, "functor F(X:S)": 14, "open M N": 7, "sharing type t = u": 0, "val \u00e9 = \u00e9 )": 12,
	} {
		hasNone(t, s, at, api.ErrParse)
		hasNone(t, "open M\n"+s, at+7, api.ErrParse)
	}
	for s, at := range map[string]int{"datatype t = A of int | A of int": 24, "signature S = sig datatype t = \u00e9 of int | \u00e9 of int end": 43, "type t = mu t { A of int | A of int }": 27} {
		hasNone(t, s, at, api.ErrTwice)
		hasNone(t, "(*\u00e9*)"+s+" ) )", at+6, api.ErrTwice)
	}
	for s, at := range map[string]int{"$": 0, "val x = $": 8, "open M ; open N": 7, "open M.val": 5, "val x = 1073741825": 8, "val x = 7a": 8, "(* val x = 1": 0, "val x = 1 (* (* *)": 10, "val " + strings.Repeat("a", 33) + " = 1": 4, "open " + longName(129): 5} {
		hasNone(t, s, at, api.ErrLex)
		hasNone(t, ") "+s, at+2, api.ErrLex)
	}
	for s, at := range map[string]int{"\xff": 0, "val x = 1\x00": 9, "open M\r\n": 6, "val x = \ufffd": 8, "(* \x7f *)": 3} {
		hasNone(t, s, at, api.ErrText)
	}
}

func TestTextsAtTheLimits(t *testing.T) {
	for _, s := range []string{"open M\n", "val x = 1 + 2\n", "structure A = struct end\n", ""} {
		full := s + strings.Repeat(" ", 16384-len(s))
		canonIs(t, full, s)
		hasNone(t, full+" ", 0, api.ErrLong)
		hasNone(t, ") $ \xff"+full, 0, api.ErrLong)
	}
	for _, n := range []int{8191, 8192} {
		canonIs(t, denseText(n), denseText(n))
	}
	for _, n := range []int{8193, 8200, 9000} {
		hasNone(t, denseText(n), 0, api.ErrLong)
	}
	for n, e := range map[int]api.Errno{59: api.OK, 60: api.OK, 61: api.ErrDeep, 62: api.ErrDeep, 300: api.ErrDeep} {
		for _, x := range deepTrees(n) {
			if x.category != "prog" {
				continue
			}
			if e == api.OK {
				canonIs(t, "(**)"+x.want, x.want)
			} else {
				hasNone(t, "(**)"+x.want, 0, e)
			}
		}
	}
}

// A text may be shorter than the one that is made of it, and that one too long.
func TestTextsThatAreTooLongAsTheyAreWritten(t *testing.T) {
	line := "val x = 1" + strings.Repeat(" + 1", 50) + "\n"
	for _, n := range []int{1000, 16383, 16384, 16385, 16386, 20000} {
		want := strings.Repeat(line, (n-200)/len(line))
		for _, bytes := range lengths(n - len(want)) {
			want += "open " + longName(bytes-6) + "\n"
		}
		short := strings.ReplaceAll(strings.ReplaceAll(want, " + ", "+"), " = ", "=")
		if len(want) != n || len(short) > 12000 {
			t.Fatal(n, len(want), len(short))
		}
		if n <= 16384 {
			canonIs(t, short, want)
		} else {
			hasNone(t, short, 0, api.ErrLong)
			hasNone(t, short+" )", len(short)+1, api.ErrParse)
			hasNone(t, short+" $", len(short)+1, api.ErrLex)
		}
	}
	hasNone(t, strings.Repeat("type t=a*a ", 1400), 0, api.ErrLong)
	hasNone(t, strings.Repeat("structure A=F(M)", 1000), 0, api.ErrLong)
}

// P9.4.

// isKept asks of a text that Canon writes: that it is read as the text was, and stays as it is.
func isKept(t *testing.T, s string) {
	t.Helper()
	n, at, e := pmod.Source(s)
	canon, canonAt, canonE := print.Canon(s)
	if e != api.OK {
		if canon != "" || canonAt != at || canonE != e {
			t.Fatalf("%q: %q, %d, %d, not %d, %d", s, canon, canonAt, int(canonE), at, int(e))
		}
		return
	}
	want, wantE := print.Prog(n)
	if canon != want || canonAt != 0 || canonE != wantE {
		t.Fatalf("%q: %q, %d, %d, not %q", s, canon, canonAt, int(canonE), want)
	}
	isPlain(t, "prog", canon, n)
	if again, at, e := print.Canon(canon); again != canon || at != 0 || e != api.OK {
		t.Fatalf("%q, %q", again, canon)
	}
}

// richText is a program in which all forms stand.
const richText = "signature S=sig type t type u=int val x:t datatype d=A of unit|B of d*int structure X:sig end include T where type v=(int)where type w=int sharing type t=X.u end where type X.t=int->(int->int)\n" +
	"functor F(X:S where type t=int)=struct open X include X.Y type t=X.t val y:t=(X.x)val z=y end:>T :S\n" +
	"structure M=struct structure N=struct end datatype l=N of(unit)|C of int*l structure P=(F((M:S)):>S)end structure Q=F(G(struct val x=(a+b)*c end):S)\n"

func TestARichProgram(t *testing.T) {
	canonIs(t, richText, "signature S = sig type t type u = int val x : t datatype d = A of unit | B of d * int structure X : sig end include T where type v = int where type w = int sharing type t = X.u end where type X.t = int -> int -> int\n"+
		"functor F ( X : S where type t = int ) = struct open X include X.Y type t = X.t val y : t = X.x val z = y end :> T : S\n"+
		"structure M = struct structure N = struct end datatype l = N of unit | C of int * l structure P = F ( M : S ) :> S end\nstructure Q = F ( G ( struct val x = ( a + b ) * c end ) : S )\n")
	isKept(t, richText)
}

// Each token is left out, doubled, and has each other one ahead of it, or in its place.
func TestAWrongTokenAtEachPlace(t *testing.T) {
	l := tokens(richText)
	others := tokens("X X.Y 7 ( ) { } , : :> = -> * | => struct end sig where type val datatype structure signature functor open include sharing of int")
	shown := func(l []api.Token) string {
		s, e := lexer.Show(l)
		if e != api.OK {
			t.Fatal(int(e))
		}
		return s
	}
	read := 0
	for i := range l {
		for _, row := range [][]api.Token{l[:i], slices.Delete(slices.Clone(l), i, i+1), slices.Insert(slices.Clone(l), i, l[i])} {
			isKept(t, shown(row))
		}
		for _, x := range others {
			other := slices.Clone(l)
			other[i] = x
			for _, s := range []string{shown(other), shown(slices.Insert(slices.Clone(l), i, x))} {
				if _, _, e := pmod.Source(s); e == api.OK {
					read++
				}
				isKept(t, s)
			}
		}
	}
	if read < 100 {
		t.Error(read)
	}
}

// Cut anywhere a text is a program, or it is none: Canon tells what Source does.
func TestTextsThatAreCut(t *testing.T) {
	for i := range len(richText) {
		isKept(t, richText[:i])
		isKept(t, richText[i:])
	}
}

// What Source tells of what Prog tells is the program, for all samples in all places of a program.
func TestProgramsAreReadAsTheyWere(t *testing.T) {
	for _, x := range programs() {
		isKept(t, x.want)
	}
	for i, m := range nodesOf(mods()) {
		for j, s := range nodesOf(sigs()) {
			n := tree(api.Prog, marked(api.DFunctor, "F", "X", s, m), node(api.DStruct, "A", seal((i+j)%2, m, s)), node(api.DSig, "S", s), node(api.DStruct, "B", app("F", m)))
			s, e := print.Prog(n)
			got, at, readE := pmod.Source(s)
			if e != api.OK || at != 0 || readE != api.OK || text(got) != text(n) {
				t.Fatal(fmt.Sprint(s, text(got), text(n)))
			}
			isKept(t, s)
		}
	}
}
