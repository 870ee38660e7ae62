package ctor_test

import (
	"slices"
	"strconv"
	"strings"
	"testing"

	"marquetry/api"
	"marquetry/arena"
	"marquetry/ctor"
)

// P10.5.

func shows(t *testing.T, n *api.Node, want string) {
	t.Helper()
	if s := ctor.Show(n); s != want {
		t.Errorf("%.300q, not %.300q", s, want)
	}
}

func TestShowOfEachForm(t *testing.T) {
	i, to := leaf(api.CInt), tree(api.KArrow, star(), star())
	shows(t, star(), "*")
	shows(t, to, "( * -> * )")
	shows(t, tree(api.KArrow, to, star()), "( ( * -> * ) -> * )")
	shows(t, tree(api.KArrow, star(), to), "( * -> ( * -> * ) )")
	shows(t, v(0), "$0")
	shows(t, v(10), "$10")
	shows(t, v(65536), "$65536")
	shows(t, i, "int")
	shows(t, leaf(api.CBool), "bool")
	shows(t, leaf(api.CUnit), "unit")
	shows(t, arrow(i, v(1)), "( int -> $1 )")
	shows(t, app(v(2), i), "( $2 int )")
	shows(t, rec(), "{ }")
	shows(t, rec(field("a", i)), "{ a = int }")
	shows(t, rec(field("a", i), field("b", v(0))), "{ a = int , b = $0 }")
	shows(t, rec(field("a", i), field("b", rec()), field("c", rec(field("v:x", i)))), "{ a = int , b = { } , c = { v:x = int } }")
	shows(t, all(v(0)), "( all * . $0 )")
	shows(t, ex(v(0)), "( ex * . $0 )")
	shows(t, fn(v(0)), "( fn * . $0 )")
	shows(t, tree(api.CLam, to, app(v(0), i)), "( fn ( * -> * ) . ( $0 int ) )")
	shows(t, sum(kase("A", i)), "mu { A of int }")
	shows(t, sum(kase("N", leaf(api.CUnit)), kase("C", rec(field("1", i), field("2", v(0))))), "mu { N of unit | C of { 1 = int , 2 = $0 } }")
	shows(t, sum(kase("C", i), kase("B", i), kase("A", sum(kase("Z", v(1))))), "mu { C of int | B of int | A of mu { Z of $1 } }")
	shows(t, all(ex(fn(arrow(v(0), app(v(1), v(2)))))), "( all * . ( ex * . ( fn * . ( $0 -> ( $1 $2 ) ) ) ) )")
	shows(t, arrow(arrow(i, i), app(app(i, i), app(i, i))), "( ( int -> int ) -> ( ( int int ) ( int int ) ) )")
}

func TestShowOfLabels(t *testing.T) {
	for _, label := range []string{"a", " ", "\x00", "\xff", "\u00e9", "a b", ",", "}", "\n", strings.Repeat("a", 160)} {
		shows(t, rec(field(label, v(0))), "{ "+label+" = $0 }")
		shows(t, sum(kase(label, v(0))), "mu { "+label+" of $0 }")
	}
}

func TestShowOfManyTrees(t *testing.T) {
	o := newOracle()
	for _, n := range slices.Concat(smallCons(), nested(), samples()["C"], samples()["K"], []*api.Node{richCon(), guarded(richCon())}) {
		shows(t, n, o.show(n))
	}
}

func TestShowOfOtherTrees(t *testing.T) {
	for n := range refused() {
		if n == nil || n.Kind != api.KStar && n.Kind != api.KArrow {
			shows(t, n, "")
		}
	}
	for _, n := range slices.Concat(samples()["F"], samples()["S"], samples()["x"]) {
		shows(t, n, "")
	}
	shows(t, tree(api.KArrow, star(), nil), "")
	shows(t, tree(api.KArrow, star()), "")
	shows(t, kind(16), "")
	shows(t, node(api.KStar, 1, "", ""), "")
}

// reader reads what is shown, if no label is a sign or a word of it.
type reader struct{ tokens []string }

func (r *reader) take() string {
	x := r.tokens[0]
	r.tokens = r.tokens[1:]
	return x
}

func (r *reader) tree() *api.Node {
	switch x := r.take(); x {
	case "*":
		return star()
	case "int":
		return leaf(api.CInt)
	case "bool":
		return leaf(api.CBool)
	case "unit":
		return leaf(api.CUnit)
	case "mu":
		r.take()
		return r.parts(api.CSum, api.CCase)
	case "{":
		return r.parts(api.CRec, api.CField)
	case "(":
		return r.signed()
	default:
		n, _ := strconv.Atoi(x[1:])
		return v(n)
	}
}

func (r *reader) parts(kind, part int) *api.Node {
	n := leaf(kind)
	for r.tokens[0] != "}" {
		if len(n.Kids) > 0 {
			r.take()
		}
		label := r.take()
		r.take()
		n.Kids = append(n.Kids, node(part, 0, label, "", r.tree()))
	}
	r.take()
	return n
}

func (r *reader) signed() *api.Node {
	n := leaf(0)
	words := []string{"all", "ex", "fn"}
	if at := slices.Index(words, r.tokens[0]); at >= 0 {
		r.take()
		n.Kind = []int{api.CAll, api.CEx, api.CLam}[at]
	}
	a := r.tree()
	switch {
	case r.tokens[0] == ".":
		r.take()
	case r.tokens[0] != "->":
		n.Kind = api.CApp
	default:
		r.take()
		n.Kind = api.CArrow
		if a.Kind == api.KStar || a.Kind == api.KArrow {
			n.Kind = api.KArrow
		}
	}
	n.Kids = []*api.Node{a, r.tree()}
	r.take()
	return n
}

// What is shown is told apart, so that it can be read as it was.
func TestWhatIsShownIsReadAsItWas(t *testing.T) {
	for _, n := range slices.Concat(smallCons(), nested(), samples()["K"], []*api.Node{full(15, v(0), leaf(api.CInt)), within(32767, v(5)), record(32767, leaf(api.CInt)), cases(32767, v(0)), kind(15)}) {
		r := reader{strings.Split(ctor.Show(n), " ")}
		if m := r.tree(); !arena.Same(m, n) || len(r.tokens) != 0 {
			t.Fatalf("%.300s", ctor.Show(n))
		}
	}
}
