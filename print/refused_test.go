package print_test

import (
	"math"
	"slices"
	"strings"
	"testing"

	"marquetry/api"
)

// refused_test.go hands to the calls what they have to refuse, and what lies at the limits.

// isNone asks of a tree that each call refuses it, and tells no text.
func isNone(t *testing.T, n *api.Node, want api.Errno) {
	t.Helper()
	for _, c := range calls() {
		if s, e := c.write(n); s != "" || e != want {
			t.Errorf("%s of %.200s: %.100q, %d, not %d", c.category, text(n), s, int(e), int(want))
		}
	}
}

// isOnly asks of a tree that its own category's call writes it, and all others refuse it.
func isOnly(t *testing.T, n *api.Node, category, want string) {
	t.Helper()
	for _, c := range calls() {
		wantText, wantE := "", api.ErrForm
		if c.category == category {
			wantText, wantE = want, api.OK
		}
		if s, e := c.write(n); s != wantText || e != wantE {
			t.Errorf("%s of %.200s: %.100q, %d, not %.100q, %d", c.category, text(n), s, int(e), wantText, int(wantE))
		}
	}
}

// P9.1 and P9.2: trees of other categories, or of none.

func TestTreesOfEachOtherCategory(t *testing.T) {
	for _, c := range calls() {
		for _, x := range samplesOf(c.category) {
			isOnly(t, x.n, c.category, x.want)
		}
	}
	for _, x := range slices.Concat(types(), exprs()) {
		isNone(t, x.n, api.ErrForm)
	}
	isNone(t, con("A", tree(api.TInt)), api.ErrForm)
	isNone(t, arm("A", "x", num(1)), api.ErrForm)
}

func TestKindsThatAreNone(t *testing.T) {
	known := map[int]bool{api.Prog: true}
	for _, f := range forms() {
		known[f.kind] = true
	}
	kinds := []int{math.MinInt, math.MaxInt, 1 << 32, 1<<32 + api.MPath, 1<<32 + api.Prog, -1 << 32, math.MinInt32, -api.MPath}
	for kind := -20; kind <= 300; kind++ {
		kinds = append(kinds, kind)
	}
	m, s, i, e := path("M"), sname("S"), tree(api.TInt), num(1)
	for _, kind := range kinds {
		if known[kind] {
			continue
		}
		for _, kids := range [][]*api.Node{nil, {m}, {s}, {i}, {e}, {m, s}, {s, m}, {s, i}, {i, e}, {open("M")}, {con("A", i)}} {
			for _, name := range []string{"", "a", "a.b"} {
				isNone(t, node(kind, name, kids...), api.ErrForm)
			}
		}
		odd := tree(kind)
		for _, n := range []*api.Node{str(odd), str(open("M"), odd), app("F", odd), seal(0, odd, s), seal(1, m, odd), body(odd), tree(api.Prog, odd), tree(api.Prog, open("M"), odd)} {
			isNone(t, n, api.ErrForm)
		}
	}
}

// nodesBelow tells a tree's nodes.
func nodesBelow(n *api.Node) []*api.Node {
	l := []*api.Node{n}
	for _, kid := range n.Kids {
		l = append(l, nodesBelow(kid)...)
	}
	return l
}

// twin tells a tree that is the same, with nodes of its own at each place.
func twin(n *api.Node) *api.Node {
	c := *n
	c.Kids = nil
	for _, kid := range n.Kids {
		c.Kids = append(c.Kids, twin(kid))
	}
	return &c
}

// eachSpoilt spoils each node of each sample in each way, one by one, and hands on the whole.
func eachSpoilt(ways func(n api.Node) []api.Node, f func(n *api.Node)) {
	for _, c := range calls() {
		for _, x := range thinned(nodesOf(samplesOf(c.category)), 2) {
			n := twin(x)
			for _, part := range nodesBelow(n) {
				was := *part
				for _, now := range ways(was) {
					*part = now
					f(n)
				}
				*part = was
			}
		}
	}
}

// fieldsSpoilt tells nodes with another number or text than they may have.
func fieldsSpoilt(n api.Node) []api.Node {
	var l []api.Node
	add := func(change func(n *api.Node)) {
		x := n
		change(&x)
		l = append(l, x)
	}
	for _, name := range []string{"val", "a.val", "a.", ".a", "a..b", "1", "'a", "a b", " a", "a;", "\xff", "a\ufffd", strings.Repeat("a", 33), longName(129)} {
		add(func(n *api.Node) { n.Name = name })
		add(func(n *api.Node) { n.Mark = name })
	}
	for _, number := range []int{math.MinInt, math.MaxInt, 1<<30 + 1, -1<<30 - 1, 1 << 32, 1<<32 + 1} {
		add(func(n *api.Node) { n.N = number })
	}
	add(func(n *api.Node) { n.Kind += 200 })
	add(func(n *api.Node) { n.Name += "\x00" })
	return l
}

func TestFieldsThatMayNotBe(t *testing.T) {
	n := 0
	eachSpoilt(fieldsSpoilt, func(x *api.Node) {
		n++
		isNone(t, x, api.ErrForm)
	})
	if n < 10000 {
		t.Error(n)
	}
	m, s := path("M"), sname("S")
	for _, x := range []*api.Node{seal(2, m, s), seal(-1, m, s), numbered(api.MStruct, 1), numbered(api.SBody, 1), numbered(api.Prog, 1), node(api.Prog, "a"), node(api.MStruct, "a"), node(api.SBody, "a"), node(api.PInclude, "a", s), node(api.MPath, ""), node(api.SName, "S.T"), node(api.MApp, "F.G", m), marked(api.MPath, "M", "M"), marked(api.PShare, "t", ""), marked(api.PShare, "", "t"), marked(api.DFunctor, "F", "", s, m), marked(api.DFunctor, "F", "X.Y", s, m), node(api.DVal, "a.b", num(1)), node(api.DVal, "", num(1)), node(api.DOpen, "")} {
		isNone(t, x, api.ErrForm)
	}
}

// kidsSpoilt tells nodes with a kid more, fewer, or another one.
func kidsSpoilt(n api.Node) []api.Node {
	m, s, i, e := path("M"), sname("S"), tree(api.TInt), num(1)
	others := []*api.Node{m, s, i, e, open("M"), node(api.PType, "t"), node(api.DSig, "S", s), con("A", i), arm("A", "x", e), tree(api.Prog), tree(0)}
	var l []api.Node
	add := func(kids []*api.Node) {
		x := n
		x.Kids = kids
		l = append(l, x)
	}
	for at := range n.Kids {
		add(slices.Delete(slices.Clone(n.Kids), at, at+1))
		for _, other := range others {
			add(slices.Concat(n.Kids[:at], []*api.Node{other}, n.Kids[at+1:]))
		}
	}
	for at := range len(n.Kids) + 1 {
		for _, other := range others {
			add(slices.Insert(slices.Clone(n.Kids), at, other))
		}
	}
	return l
}

func TestKidsOfEachSort(t *testing.T) {
	n, refused := 0, 0
	eachSpoilt(kidsSpoilt, func(x *api.Node) {
		n++
		agrees(t, x)
		if !slices.ContainsFunc(calls(), func(c call) bool { _, e := c.write(x); return e == api.OK }) {
			refused++
		}
	})
	if n < 10000 || refused < n/2 {
		t.Error(n, refused)
	}
	m, s, i := path("M"), sname("S"), tree(api.TInt)
	for _, x := range []*api.Node{node(api.MPath, "M", m), node(api.MApp, "F", m, m), tree(api.MSeal, m), tree(api.MSeal, s, m), tree(api.MSeal, m, s, s), node(api.SName, "S", s), node(api.SWhere, "t", s), node(api.SWhere, "t", i, s), node(api.PVal, "x"), node(api.PVal, "x", i, i), node(api.PType, "t", i, i), node(api.PData, "t"), node(api.PStruct, "X"), node(api.PStruct, "X", m), tree(api.PInclude), tree(api.PInclude, s, s), marked(api.PShare, "t", "u", i), node(api.DVal, "x"), node(api.DVal, "x", num(1), i), node(api.DVal, "x", i), node(api.DVal, "x", i, num(1), num(1)), node(api.DType, "t"), node(api.DData, "t"), node(api.DData, "t", con("A", i), con("A", i)), node(api.DStruct, "M", s), node(api.DSig, "S", m), marked(api.DFunctor, "F", "X", m, s), marked(api.DFunctor, "F", "X", s), node(api.DOpen, "M", m), str(node(api.DSig, "S", s)), str(marked(api.DFunctor, "F", "X", s, m)), tree(api.Prog, m), tree(api.Prog, tree(api.Prog))} {
		isNone(t, x, api.ErrForm)
	}
}

func TestNils(t *testing.T) {
	isNone(t, nil, api.ErrNil)
	for _, c := range calls() {
		for _, x := range samplesOf(c.category) {
			n := twin(x.n)
			for _, part := range nodesBelow(n) {
				for at, was := range part.Kids {
					part.Kids[at] = nil
					isNone(t, n, api.ErrNil)
					part.Kids[at] = was
				}
				kids := part.Kids
				part.Kids = slices.Concat(kids, []*api.Node{nil})
				isNone(t, n, api.ErrNil)
				part.Kids = kids
			}
			isOnly(t, n, c.category, x.want)
		}
	}
}

// The limits of layer 5.

// chain puts a node, n times over, on top of a tree: each has the one below as its kid at a place.
func chain(n int, top *api.Node, at int, low *api.Node) *api.Node {
	for range n {
		x := *top
		x.Kids = slices.Clone(top.Kids)
		x.Kids[at] = low
		low = &x
	}
	return low
}

// limited is a tree at a limit, its category and its text.
type limited struct {
	category string
	n        *api.Node
	want     string
}

// deepTrees tells trees of n nodes above one another.
func deepTrees(n int) []limited {
	m, s, i, e := path("M"), sname("S"), tree(api.TInt), v("x")
	up := func(low int, ahead, inner, behind string) string {
		return strings.Repeat(ahead, n-low) + inner + strings.Repeat(behind, n-low)
	}
	apps, seals := chain(n-1, app("F", m), 0, m), chain(n-1, seal(1, m, s), 0, m)
	wheres := func(n int) *api.Node { return chain(n, where("t", s, i), 0, s) }
	products, firsts := chain(n-3, product(i, i), 1, i), chain(n-3, tree(api.EFst, e), 0, e)
	return []limited{
		{"mod", apps, up(1, "F ( ", "M", " )")}, {"mod", seals, up(1, "", "M", " :> S")}, {"mod", seal(0, m, wheres(n-2)), "M : " + up(2, "", "S", " where type t = int")}, {"mod", str(node(api.DVal, "x", firsts)), "struct val x = " + up(3, "#1 ", "x", "") + " end"}, {"mod", app("F", str(open("M"), open("N"), node(api.DStruct, "A", chain(n-4, app("F", m), 0, m)))), "F ( struct open M open N structure A = " + up(4, "F ( ", "M", " )") + " end )"},
		{"sig", wheres(n - 1), up(1, "", "S", " where type t = int")}, {"sig", body(node(api.PVal, "x", products)), "sig val x : " + up(3, "int * ", "int", "") + " end"}, {"sig", where("t", s, chain(n-2, arrow(i, i), 0, i)), "S where type t = " + strings.Repeat("( ", n-3) + "int -> int" + strings.Repeat(" ) -> int", n-3)},
		{"spec", tree(api.PInclude, wheres(n-2)), "include " + up(2, "", "S", " where type t = int")}, {"spec", node(api.PStruct, "X", wheres(n-2)), "structure X : " + up(2, "", "S", " where type t = int")}, {"spec", node(api.PData, "t", con("A", products)), "datatype t = A of " + up(3, "int * ", "int", "")},
		{"decl", node(api.DVal, "x", chain(n-2, tree(api.ESnd, e), 0, e)), "val x = " + up(2, "#2 ", "x", "")}, {"decl", node(api.DVal, "x", chain(n-2, product(i, i), 1, i), e), "val x : " + up(2, "int * ", "int", "") + " = x"}, {"decl", marked(api.DFunctor, "F", "X", s, chain(n-2, app("F", m), 0, m)), "functor F ( X : S ) = " + up(2, "F ( ", "M", " )")}, {"decl", marked(api.DFunctor, "F", "X", wheres(n-2), m), "functor F ( X : " + up(2, "", "S", " where type t = int") + " ) = M"}, {"decl", node(api.DSig, "S", wheres(n-2)), "signature S = " + up(2, "", "S", " where type t = int")},
		{"prog", tree(api.Prog, open("M"), node(api.DVal, "x", firsts)), "open M\nval x = " + up(3, "#1 ", "x", "") + "\n"}, {"prog", tree(api.Prog, node(api.DStruct, "A", chain(n-3, seal(0, m, s), 0, m)), open("M")), "structure A = " + up(3, "", "M", " : S") + "\nopen M\n"},
	}
}

func TestTheMostNodesAboveOneAnother(t *testing.T) {
	for _, n := range []int{5, 30, 59, 60} {
		for _, x := range deepTrees(n) {
			isOnly(t, x.n, x.category, x.want)
		}
	}
	for _, n := range []int{61, 62, 100, 1000} {
		for _, x := range deepTrees(n) {
			isNone(t, x.n, api.ErrDeep)
		}
	}
	nested := "open M"
	n := open("M")
	for range 29 { // a structure in a structure goes down by two
		n, nested = node(api.DStruct, "A", str(n)), "structure A = struct "+nested+" end"
	}
	isOnly(t, n, "decl", nested)
	isOnly(t, tree(api.Prog, n), "prog", nested+"\n")
	isNone(t, tree(api.Prog, node(api.DStruct, "A", str(n))), api.ErrDeep)
}

// largeTrees tells trees of n nodes.
func largeTrees(n int) []limited {
	opens := func(n int) ([]*api.Node, string) {
		return slices.Repeat([]*api.Node{open("M")}, n), strings.Repeat("open M ", n)
	}
	specs := func(n int) ([]*api.Node, string) {
		return slices.Repeat([]*api.Node{marked(api.PShare, "t", "u")}, n), strings.Repeat("sharing type t = u ", n)
	}
	decls, opened := opens(n - 1)
	shares, shared := specs(n - 1)
	return []limited{
		{"mod", str(decls...), "struct " + opened + "end"}, {"sig", body(shares...), "sig " + shared + "end"},
		{"spec", tree(api.PInclude, body(shares[1:]...)), "include sig " + shared[19:] + "end"}, {"decl", node(api.DStruct, "A", str(decls[1:]...)), "structure A = struct " + opened[7:] + "end"}, {"decl", node(api.DSig, "S", body(shares[1:]...)), "signature S = sig " + shared[19:] + "end"},
		{"prog", dense(n), denseText(n)},
	}
}

// dense tells a program of n nodes that can be written in fewer than 16384 bytes: its values are rows of names, of which no more than 58 lie above one another.
func dense(n int) *api.Node {
	x := v("x")
	row := node(api.DVal, "x", chain(57, tree(api.EApp, x, x), 0, x)) // 116 nodes
	rest := (n - 1) % 116
	return tree(api.Prog, slices.Concat(slices.Repeat([]*api.Node{row}, (n-1)/116), slices.Repeat([]*api.Node{open("M")}, rest))...)
}

func denseText(n int) string {
	return strings.Repeat("val x = x"+strings.Repeat(" x", 57)+"\n", (n-1)/116) + strings.Repeat("open M\n", (n-1)%116)
}

func TestTheMostNodes(t *testing.T) {
	for _, n := range []int{100, 8191, 8192} {
		for _, x := range largeTrees(n) {
			isOnly(t, x.n, x.category, x.want)
		}
	}
	for _, n := range []int{8193, 8194, 20000} {
		for _, x := range largeTrees(n) {
			isNone(t, x.n, api.ErrLong)
		}
	}
}

// Parts of programs know no bound but those of their trees.
func TestTheLongestTexts(t *testing.T) {
	long := longName(128)
	n := chain(58, seal(1, nil, sname("S")), 0, str(slices.Repeat([]*api.Node{open(long)}, 8192-1-2*58)...))
	isOnly(t, n, "mod", "struct"+strings.Repeat(" open "+long, 8075)+" end"+strings.Repeat(" :> S", 58))
	shares := slices.Repeat([]*api.Node{marked(api.PShare, long, long)}, 8190)
	want := "sig" + strings.Repeat(" sharing type "+long+" = "+long, 8190) + " end"
	isOnly(t, body(shares...), "sig", want)
	isOnly(t, tree(api.PInclude, body(shares...)), "spec", "include "+want)
	isOnly(t, node(api.DSig, "S", body(shares...)), "decl", "signature S = "+want)
}

// Which error is told, where several apply: nil, then too large, then too deep, then the form.
func TestWhichErrorIsTold(t *testing.T) {
	m, s := path("M"), sname("S")
	opens := slices.Repeat([]*api.Node{open("M")}, 9000)
	deep := chain(70, app("F", m), 0, m)
	for _, n := range []*api.Node{tree(0, nil), str(nil, tree(0)), tree(api.Prog, slices.Concat(opens, []*api.Node{nil})...), seal(7, deep, nil), seal(0, nil, s), chain(70, app("F", m), 0, nil), node(api.DStruct, "", nil)} {
		isNone(t, n, api.ErrNil)
	}
	for _, n := range []*api.Node{tree(0, opens...), str(slices.Concat(opens, []*api.Node{deep})...), chain(9000, app("F", m), 0, m), chain(9000, tree(0, m), 0, m), tree(api.Prog, slices.Repeat([]*api.Node{deep}, 200)...)} {
		isNone(t, n, api.ErrLong)
	}
	for _, n := range []*api.Node{tree(0, deep), chain(60, app("F", m), 0, tree(0)), seal(7, deep, s), tree(api.Prog, deep), chain(70, tree(99, m), 0, m)} {
		isNone(t, n, api.ErrDeep)
	}
	// What has no program's form is refused for that, were its text too long or not.
	long := slices.Repeat([]*api.Node{open(longName(128))}, 200)
	isNone(t, tree(api.Prog, slices.Concat(long, []*api.Node{m})...), api.ErrForm)
	isNone(t, numbered(api.Prog, 1, long...), api.ErrForm)
}

// Rules 1, 4 and 6.

func TestWhatIsHandedInStaysAsItWas(t *testing.T) {
	var l []*api.Node
	for _, c := range calls() {
		for _, x := range samplesOf(c.category) {
			l = append(l, twin(x.n), twin(app("F", x.n)))
		}
	}
	behind := []*api.Node{open("M"), open("N"), tree(0)}
	l = append(l, tree(api.Prog, behind[:1]...), str(behind[:2]...), tree(api.Prog, slices.Repeat([]*api.Node{open(longName(128))}, 200)...))
	for _, n := range l {
		was := text(n)
		for _, c := range calls() {
			s, e := c.write(n)
			if again, e2 := c.write(n); again != s || e2 != e {
				t.Error(c.category, s, again)
			}
		}
		if text(n) != was {
			t.Errorf("%.300s was %.300s", text(n), was)
		}
	}
	if behind[0].Name != "M" || behind[1].Name != "N" || behind[2].Kind != 0 || len(behind[2].Kids) != 0 {
		t.Error("what lies behind a list's end was changed")
	}
}

// Of trees that lie in themselves no more is promised than that each call ends.
func TestCallsEndOnTreesThatLieInThemselves(t *testing.T) {
	for _, n := range []*api.Node{app("F", nil), str(open("M"), nil), tree(api.Prog, nil), tree(api.PInclude, nil), node(api.DStruct, "M", nil)} {
		n.Kids[len(n.Kids)-1] = n
		for _, c := range calls() {
			if s, e := c.write(n); s != "" || e == api.OK {
				t.Error(n.Kind)
			}
		}
	}
}
