package print_test

import (
	"fmt"
	"slices"
	"strconv"
	"strings"
	"testing"

	"marquetry/api"
	"marquetry/lexer"
	"marquetry/pexpr"
	"marquetry/pmod"
	"marquetry/print"
	"marquetry/ptype"
	"marquetry/shape"
)

// oracle_test.go writes trees by a table of rows, one for each form: it shares nothing with the package but what layers 6 and 7 write.

// form is a row of the grammar: NAME and MARK stand for the node's texts, T0, E0 and K0 for its first kid, a type, an expression or another part, EACH for all kids, BARS for all with the sign | between. A number below 0 is any.
type form struct {
	kind, number, kids int
	row                string
}

func forms() []form {
	return []form{
		{api.MStruct, 0, -1, "struct EACH end"},
		{api.MPath, 0, 0, "NAME"},
		{api.MApp, 0, 1, "NAME ( K0 )"},
		{api.MSeal, 0, 2, "K0 : K1"},
		{api.MSeal, 1, 2, "K0 :> K1"},
		{api.SBody, 0, -1, "sig EACH end"},
		{api.SName, 0, 0, "NAME"},
		{api.SWhere, 0, 2, "K0 where type NAME = T1"},
		{api.PVal, 0, 1, "val NAME : T0"},
		{api.PType, 0, 0, "type NAME"},
		{api.PType, 0, 1, "type NAME = T0"},
		{api.PData, 0, -1, "datatype NAME = BARS"},
		{api.PStruct, 0, 1, "structure NAME : K0"},
		{api.PInclude, 0, 1, "include K0"},
		{api.PShare, 0, 0, "sharing type NAME = MARK"},
		{api.DVal, 0, 1, "val NAME = E0"},
		{api.DVal, 0, 2, "val NAME : T0 = E1"},
		{api.DType, 0, 1, "type NAME = T0"},
		{api.DData, 0, -1, "datatype NAME = BARS"},
		{api.DStruct, 0, 1, "structure NAME = K0"},
		{api.DSig, 0, 1, "signature NAME = K0"},
		{api.DFunctor, 0, 2, "functor NAME ( MARK : K0 ) = K1"},
		{api.DOpen, 0, 0, "open NAME"},
		{api.DInclude, 0, 0, "include NAME"},
		{api.TCon, 0, 1, "NAME of T0"},
	}
}

// oracle tells the tokens of a tree that has a form.
func oracle(n *api.Node) []string {
	i := slices.IndexFunc(forms(), func(f form) bool {
		return f.kind == n.Kind && f.number == n.N && (f.kids < 0 || f.kids == len(n.Kids))
	})
	var l []string
	for _, x := range strings.Fields(forms()[i].row) {
		l = append(l, symbol(n, x)...)
	}
	return l
}

// symbol tells the tokens that a row's symbol stands for.
func symbol(n *api.Node, x string) []string {
	switch x {
	case "NAME":
		return []string{n.Name}
	case "MARK":
		return []string{n.Mark}
	case "EACH", "BARS":
		var l []string
		for i, kid := range n.Kids {
			if x == "BARS" && i > 0 {
				l = append(l, "|")
			}
			l = append(l, oracle(kid)...)
		}
		return l
	case "T0", "T1":
		return fields(ptype.Write(n.Kids[x[1]-'0']))
	case "E0", "E1":
		return fields(pexpr.Write(n.Kids[x[1]-'0']))
	case "K0", "K1":
		return oracle(n.Kids[x[1]-'0'])
	}
	return []string{x}
}

func fields(s string, e api.Errno) []string {
	if e != api.OK {
		panic("it has no form")
	}
	return strings.Fields(s)
}

// call is one of the calls that write: by layer 5's category, and by the oracle.
type call struct {
	category string
	write    func(n *api.Node) (string, api.Errno)
	shape    func(n *api.Node) api.Errno
}

func calls() []call {
	return []call{
		{"mod", print.Mod, shape.Mod}, {"sig", print.Sig, shape.Sig}, {"spec", print.Spec, shape.Spec}, {"decl", print.Decl, shape.Decl}, {"prog", print.Prog, shape.Prog},
	}
}

// want tells what a call has to answer of a tree.
func (c call) want(n *api.Node) (string, api.Errno) {
	if e := c.shape(n); e != api.OK {
		return "", e
	}
	if c.category != "prog" {
		return strings.Join(oracle(n), " "), api.OK
	}
	s := ""
	for _, decl := range n.Kids {
		s += strings.Join(oracle(decl), " ") + "\n"
	}
	if len(s) > 16384 {
		return "", api.ErrLong
	}
	return s, api.OK
}

// agrees asks each call of a tree, and the oracle.
func agrees(t *testing.T, n *api.Node) {
	t.Helper()
	for _, c := range calls() {
		s, e := c.write(n)
		if want, wantE := c.want(n); s != want || e != wantE {
			t.Fatalf("%s of %.300s: %.300q, %d, not %.300q, %d", c.category, text(n), s, int(e), want, int(wantE))
		}
	}
}

// readAs tells what a text of a category is read as: the tree, as text.
func readAs(category, s string) string {
	switch category {
	case "prog":
		n, _, e := pmod.Source(s)
		return fmt.Sprint(text(n), int(e))
	case "spec":
		n, next, e := pmod.Sig(tokens("sig "+s+" end"), 0)
		return read(n, next-2, e, s)
	case "sig":
		n, next, e := pmod.Sig(tokens(s), 0)
		return read(n, next, e, s)
	case "mod":
		n, next, e := pmod.Mod(tokens(s), 0)
		return read(n, next, e, s)
	}
	l, next, e := pmod.Decls(tokens(s), 0, true)
	return read(&api.Node{Kind: api.Prog, Kids: l}, next, e, s)
}

// read tells the tree of a text, if all of the text is read.
func read(n *api.Node, next int, e api.Errno, s string) string {
	if next != len(tokens(s)) || e != api.OK {
		return ""
	}
	return text(n)
}

// wantRead tells what a text of a tree has to be read as.
func wantRead(category string, n *api.Node) string {
	switch category {
	case "prog":
		return fmt.Sprint(text(n), 0)
	case "spec":
		return text(tree(api.SBody, n))
	case "decl":
		return text(tree(api.Prog, n))
	}
	return text(n)
}

func tokens(s string) []api.Token {
	l, _, e := lexer.Lex(s)
	if e != api.OK {
		panic("no tokens: " + s)
	}
	return l
}

// isPlain asks of a tree's text: that it is read as the tree, that a blank and no more stands between each two tokens, and that no ( may go with its ).
func isPlain(t *testing.T, category, s string, n *api.Node) {
	t.Helper()
	want := wantRead(category, n)
	if got := readAs(category, s); got != want {
		t.Fatalf("%.300q is read as %.300s, not %.300s", s, got, want)
	}
	lines := strings.Split(strings.TrimSuffix(s, "\n"), "\n")
	for _, line := range lines {
		if shown, e := lexer.Show(tokens(line)); shown != line || e != api.OK {
			t.Fatalf("%.300q, not %.300q", line, shown)
		}
	}
	words := strings.Split(strings.TrimSuffix(s, "\n"), " ")
	for _, pair := range signs(words) {
		if less := readAs(category, without(words, pair)); less == want {
			t.Fatalf("%.300q: signs at %v that the grammar does not need", s, pair)
		}
	}
}

// signs tells the places of each ( and its ).
func signs(words []string) [][2]int {
	var open []int
	var pairs [][2]int
	for i, x := range words {
		switch x {
		case "(":
			open = append(open, i)
		case ")":
			pairs = append(pairs, [2]int{open[len(open)-1], i})
			open = open[:len(open)-1]
		}
	}
	return pairs
}

func without(words []string, pair [2]int) string {
	l := slices.Clone(words)
	l[pair[0]], l[pair[1]] = "", ""
	return strings.Join(l, " ")
}

// text writes a tree for comparison: each node's kind, number and texts, and its kids.
func text(n *api.Node) string {
	var s strings.Builder
	var put func(n *api.Node)
	put = func(n *api.Node) {
		if n == nil {
			s.WriteString("nil")
			return
		}
		s.WriteString(strconv.Itoa(n.Kind) + "#" + strconv.Itoa(n.N) + strconv.Quote(n.Name) + strconv.Quote(n.Mark) + "[")
		for _, kid := range n.Kids {
			put(kid)
			s.WriteString(",")
		}
		s.WriteString("]")
	}
	put(n)
	return s.String()
}

// tree, node and those behind them make nodes.
func tree(kind int, kids ...*api.Node) *api.Node { return &api.Node{Kind: kind, Kids: kids} }

func node(kind int, name string, kids ...*api.Node) *api.Node {
	return &api.Node{Kind: kind, Name: name, Kids: kids}
}

func marked(kind int, name, mark string, kids ...*api.Node) *api.Node {
	return &api.Node{Kind: kind, Name: name, Mark: mark, Kids: kids}
}

func numbered(kind, number int, kids ...*api.Node) *api.Node {
	return &api.Node{Kind: kind, N: number, Kids: kids}
}
