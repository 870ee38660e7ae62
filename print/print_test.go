package print_test

import (
	"math/rand"
	"slices"
	"strings"
	"testing"

	"marquetry/api"
	"marquetry/print"
)

// print_test.go asks for the texts of trees that have a form.

// P9.1.

func TestSamples(t *testing.T) {
	met := map[int]bool{}
	for _, c := range calls() {
		for _, x := range samplesOf(c.category) {
			met[x.n.Kind] = true
			s, e := c.write(x.n)
			if s != x.want || e != api.OK {
				t.Errorf("%s: %q, %d, not %q", c.category, s, int(e), x.want)
				continue
			}
			isPlain(t, c.category, s, x.n)
			agrees(t, x.n)
		}
	}
	for _, f := range forms() {
		if !met[f.kind] && f.kind != api.TCon {
			t.Error("no sample of", f.kind)
		}
	}
}

// Types and expressions stand in each place as layers 6 and 7 write them.
func TestTypesAndExpressionsAtEachPlace(t *testing.T) {
	writes := func(call func(n *api.Node) (string, api.Errno), n *api.Node, want string) {
		t.Helper()
		if s, e := call(n); s != want || e != api.OK {
			t.Errorf("%q, %d, not %q", s, int(e), want)
		}
	}
	m, one := path("M"), num(1)
	for _, x := range types() {
		writes(print.Spec, node(api.PVal, "x", x.n), "val x : "+x.want)
		writes(print.Spec, node(api.PType, "t", x.n), "type t = "+x.want)
		writes(print.Spec, node(api.PData, "t", con("A", x.n), con("B", x.n)), "datatype t = A of "+x.want+" | B of "+x.want)
		writes(print.Decl, node(api.DVal, "x", x.n, one), "val x : "+x.want+" = 1")
		writes(print.Decl, node(api.DType, "t", x.n), "type t = "+x.want)
		writes(print.Decl, node(api.DData, "t", con("A", x.n), con("B", x.n), con("C", x.n)), "datatype t = A of "+x.want+" | B of "+x.want+" | C of "+x.want)
		writes(print.Sig, where("t", where("u", sname("S"), x.n), x.n), "S where type u = "+x.want+" where type t = "+x.want)
		writes(print.Mod, seal(1, m, where("t", sname("S"), x.n)), "M :> S where type t = "+x.want)
		for _, y := range exprs() {
			writes(print.Decl, node(api.DVal, "x", x.n, y.n), "val x : "+x.want+" = "+y.want)
		}
	}
	for _, x := range exprs() {
		writes(print.Decl, node(api.DVal, "x", x.n), "val x = "+x.want)
		writes(print.Mod, str(node(api.DVal, "x", x.n), open("M")), "struct val x = "+x.want+" open M end")
		writes(print.Prog, tree(api.Prog, node(api.DVal, "x", x.n), node(api.DVal, "y", x.n)), "val x = "+x.want+"\nval y = "+x.want+"\n")
	}
}

// around tells trees of each form of modules and signatures, with parts in all their places, and those of specifications and declarations that hold such parts.
func around(mods, sigs, types []*api.Node) (m, s, p, d []*api.Node) {
	for _, a := range mods {
		m = append(m, app("F", a))
		d = append(d, node(api.DStruct, "A", a))
		for _, b := range sigs {
			m = append(m, seal(0, a, b), seal(1, a, b))
			d = append(d, marked(api.DFunctor, "F", "X", b, a))
		}
	}
	for _, b := range sigs {
		p = append(p, node(api.PStruct, "X", b), tree(api.PInclude, b))
		d = append(d, node(api.DSig, "S", b))
		for _, c := range types {
			s = append(s, where("t", b, c))
		}
	}
	return m, s, p, d
}

// Each part stands in each place of each form, and what is made so, once more.
func TestPartsAtEachPlace(t *testing.T) {
	m, s, p, d := around(nodesOf(mods()), nodesOf(sigs()), nodesOf(types()))
	few := []*api.Node{tree(api.TInt), arrow(tname("t"), tree(api.TInt))}
	m2, s2, p2, d2 := around(slices.Concat(nodesOf(mods()[:4]), thinned(m, 23)), slices.Concat(nodesOf(sigs()[:3]), thinned(s, 17)), few)
	for _, l := range [][]*api.Node{m, s, p, d, m2, s2, p2, d2} {
		for _, n := range l {
			agrees(t, n)
			for _, c := range calls() {
				if s, e := c.write(n); e == api.OK {
					isPlain(t, c.category, s, n)
				}
			}
		}
	}
}

// thinned tells each so-manieth of a list.
func thinned(l []*api.Node, step int) []*api.Node {
	var few []*api.Node
	for i := 0; i < len(l); i += step {
		few = append(few, l[i])
	}
	return few
}

// eachRow hands on each list of up to most of the nodes.
func eachRow(most int, nodes []*api.Node, f func(row []*api.Node)) {
	var grow func(row []*api.Node)
	grow = func(row []*api.Node) {
		f(row)
		if len(row) < most {
			for _, x := range nodes {
				grow(append(slices.Clone(row), x))
			}
		}
	}
	grow(nil)
}

// Structures, signatures and programs of none, one, two and three parts, in any order.
func TestRowsOfParts(t *testing.T) {
	for _, x := range []struct {
		category string
		kind     int
		parts    []*api.Node
	}{{"mod", api.MStruct, nodesOf(inner())}, {"sig", api.SBody, nodesOf(specs())}, {"prog", api.Prog, nodesOf(decls())}} {
		i := slices.IndexFunc(calls(), func(c call) bool { return c.category == x.category })
		write := calls()[i].write
		asked := func(row []*api.Node) {
			n := tree(x.kind, row...)
			s, e := write(n)
			if want, _ := calls()[i].want(n); s != want || e != api.OK {
				t.Fatalf("%q, %d, not %q", s, int(e), want)
			}
			isPlain(t, x.category, s, n)
		}
		eachRow(2, x.parts, asked)
		eachRow(3, thinned(x.parts, 4), asked)
		asked(slices.Repeat(x.parts, 12))
	}
}

// dice makes trees by chance that is the same each time.
type dice struct{ *rand.Rand }

func (d dice) of(l []sample) *api.Node { return l[d.Intn(len(l))].n }
func (d dice) name() string            { return []string{"a", "M", "t'", "_1", "\u00e9", "int'"}[d.Intn(6)] }
func (d dice) long() string {
	return []string{d.name(), d.name() + "." + d.name(), "M.N." + d.name()}[d.Intn(3)]
}

func (d dice) mod(deep int) *api.Node {
	switch {
	case deep == 0 || d.Intn(6) == 0:
		return path(d.long())
	case d.Intn(3) == 0:
		return app(d.name(), d.mod(deep-1))
	case d.Intn(2) == 0:
		return seal(d.Intn(2), d.mod(deep-1), d.sig(deep-1))
	}
	return str(d.some(func() *api.Node { return d.decl(deep-1, false) })...)
}

func (d dice) some(part func() *api.Node) []*api.Node {
	var l []*api.Node
	for range d.Intn(4) {
		l = append(l, part())
	}
	return l
}

func (d dice) sig(deep int) *api.Node {
	switch {
	case deep == 0 || d.Intn(6) == 0:
		return sname(d.name())
	case d.Intn(2) == 0:
		return where(d.long(), d.sig(deep-1), d.of(types()))
	}
	return body(d.some(func() *api.Node { return d.spec(deep - 1) })...)
}

func (d dice) spec(deep int) *api.Node {
	if deep <= 0 || d.Intn(2) == 0 {
		return d.of(specs())
	}
	if d.Intn(2) == 0 {
		return tree(api.PInclude, d.sig(deep-1))
	}
	return node(api.PStruct, d.name(), d.sig(deep-1))
}

func (d dice) decl(deep int, top bool) *api.Node {
	switch {
	case deep <= 0 || d.Intn(3) == 0:
		return d.of(inner())
	case top && d.Intn(3) == 0:
		return node(api.DSig, d.name(), d.sig(deep-1))
	case top && d.Intn(2) == 0:
		return marked(api.DFunctor, d.name(), d.name(), d.sig(deep-1), d.mod(deep-1))
	case d.Intn(5) == 0:
		return node(api.DVal, d.name(), d.of(types()), d.of(exprs()))
	}
	return node(api.DStruct, d.name(), d.mod(deep-1))
}

func TestTreesByChance(t *testing.T) {
	d := dice{rand.New(rand.NewSource(9))}
	for range 1500 {
		deep := d.Intn(9)
		for _, n := range []*api.Node{d.mod(deep), d.sig(deep), d.spec(deep), d.decl(deep, true), tree(api.Prog, d.some(func() *api.Node { return d.decl(deep, true) })...)} {
			agrees(t, n)
			for _, c := range calls() {
				if s, e := c.write(n); e == api.OK && len(s) < 3000 {
					isPlain(t, c.category, s, n)
				}
			}
		}
	}
}

// Names stand as they are, up to the longest.
func TestNamesOfEachSort(t *testing.T) {
	for _, name := range []string{"a", "Z", "_", "t'", "a''1", "int'", "vals", "structs", "\u00e9", "\ufffc", "\U0010ffff", strings.Repeat("a", 32), strings.Repeat("\u00e9", 16)} {
		for _, long := range []string{name, name + "." + name, "a." + name + ".b", longName(128), longName(127)} {
			n := tree(api.Prog,
				node(api.DSig, name, where(long, body(node(api.PVal, name, tname(long)), node(api.PType, name), node(api.PData, name, con(name, tname(long))), node(api.PStruct, name, sname(name)), marked(api.PShare, long, long)), tname(long))),
				marked(api.DFunctor, name, name, sname(name), app(name, path(long))), node(api.DStruct, name, str(open(long), node(api.DInclude, long), node(api.DVal, name, v(long)))), node(api.DData, name, con(name, tname(long))), node(api.DType, name, tname(long)))
			agrees(t, n)
			s, _ := print.Prog(n)
			isPlain(t, "prog", s, n)
			want := "signature N = sig val N : L type N datatype N = N of L structure N : N sharing type L = L end where type L = L\nfunctor N ( N : N ) = N ( L )\nstructure N = struct open L include L val N = L end\ndatatype N = N of L\ntype N = L\n"
			if want = strings.NewReplacer("N", name, "L", long).Replace(want); s != want {
				t.Errorf("%q, not %q", s, want)
			}
		}
	}
}

// longName tells a long name of n bytes.
func longName(n int) string {
	return strings.Repeat("a.", (n-1)/2) + strings.Repeat("a", 2-n%2)
}

// A list without elements may be nil or empty; kids may have more memory behind their end.
func TestListsOfKids(t *testing.T) {
	behind := []*api.Node{open("M"), open("N"), nil, tree(0)}
	for _, x := range []struct {
		category string
		n        *api.Node
		want     string
	}{
		{"mod", &api.Node{Kind: api.MStruct, Kids: []*api.Node{}}, "struct end"}, {"mod", str(behind[:1]...), "struct open M end"}, {"mod", str(behind[:0]...), "struct end"}, {"mod", &api.Node{Kind: api.MPath, Name: "M", Kids: behind[:0]}, "M"},
		{"sig", &api.Node{Kind: api.SBody, Kids: []*api.Node{}}, "sig end"}, {"sig", &api.Node{Kind: api.SName, Name: "S", Kids: []*api.Node{}}, "S"}, {"spec", &api.Node{Kind: api.PType, Name: "t", Kids: []*api.Node{}}, "type t"}, {"spec", &api.Node{Kind: api.PType, Name: "t", Kids: []*api.Node{tree(api.TInt), nil}[:1]}, "type t = int"}, {"decl", &api.Node{Kind: api.DVal, Name: "x", Kids: []*api.Node{num(1), num(2), nil}[:1]}, "val x = 1"}, {"decl", &api.Node{Kind: api.DOpen, Name: "M", Kids: []*api.Node{}}, "open M"},
		{"prog", &api.Node{Kind: api.Prog, Kids: []*api.Node{}}, ""}, {"prog", tree(api.Prog, behind[:2]...), "open M\nopen N\n"}, {"prog", tree(api.Prog, behind[:0]...), ""},
	} {
		for _, c := range calls() {
			if s, e := c.write(x.n); c.category == x.category && (s != x.want || e != api.OK) {
				t.Errorf("%q, %d, not %q", s, int(e), x.want)
			}
		}
		agrees(t, x.n)
	}
}

// One node may stand at many places.
func TestANodeAtManyPlaces(t *testing.T) {
	s, m := where("t", sname("S"), tree(api.TInt)), str(open("M"))
	n := seal(1, seal(0, app("F", m), s), s)
	if got, e := print.Mod(n); got != "F ( struct open M end ) : S where type t = int :> S where type t = int" || e != api.OK {
		t.Error(got, int(e))
	}
	d := marked(api.DFunctor, "F", "X", s, n)
	if got, e := print.Prog(tree(api.Prog, d, d)); got != strings.Repeat("functor F ( X : S where type t = int ) = F ( struct open M end ) : S where type t = int :> S where type t = int\n", 2) || e != api.OK {
		t.Error(got, int(e))
	}
}
