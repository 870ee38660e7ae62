package shape_test

import (
	"math"
	"slices"
	"strconv"
	"strings"
	"testing"

	"marquetry/api"
	"marquetry/shape"
)

// category is what a call asks for, and the letters of what it lets.
type category struct {
	letters string
	ask     func(n *api.Node) api.Errno
}

func categories() []category {
	return []category{{"T", shape.Type}, {"E", shape.Expr}, {"M", shape.Mod}, {"S", shape.Sig}, {"P", shape.Spec}, {"DG", shape.Decl}, {"R", shape.Prog}}
}

// answers asks all calls of a tree: the category of the letter answers with one number, all others with another one.
func answers(t *testing.T, n *api.Node, letter string, own, others api.Errno) {
	t.Helper()
	for _, c := range categories() {
		want := others
		if strings.Contains(c.letters, letter) {
			want = own
		}
		if e := c.ask(n); e != want {
			t.Errorf("kind %d, name %.40q, %d kids, asked for %s: %d, not %d", kindOf(n), nameOf(n), kidsOf(n), c.letters, int(e), int(want))
		}
	}
}

func kindOf(n *api.Node) int {
	if n == nil {
		return -1
	}
	return n.Kind
}

func nameOf(n *api.Node) string {
	if n == nil {
		return ""
	}
	return n.Name
}

func kidsOf(n *api.Node) int {
	if n == nil {
		return -1
	}
	return len(n.Kids)
}

// is asks of a tree that is of the category of the letter: it is, and of no other.
func is(t *testing.T, n *api.Node, letter string) {
	t.Helper()
	answers(t, n, letter, api.OK, api.ErrForm)
}

// isNone asks of a tree that all calls refuse.
func isNone(t *testing.T, n *api.Node, want api.Errno) {
	t.Helper()
	answers(t, n, "none", want, want)
}

// agrees asks all calls, and what the oracle tells.
func (o oracle) agrees(t *testing.T, n *api.Node) {
	t.Helper()
	letter, all := o.answer(n)
	for _, c := range categories() {
		want := all
		if want == api.OK && !strings.Contains(c.letters, letter) {
			want = api.ErrForm
		}
		if e := c.ask(n); e != want {
			t.Fatalf("%+v, asked for %s: %d, not %d", n, c.letters, int(e), int(want))
		}
	}
}

// P5.1, P5.2: the forms.

func TestEachFormIsOfItsCategoryAlone(t *testing.T) {
	met := map[int]bool{}
	for _, x := range samples() {
		met[x.n.Kind] = true
		if x.letter == "C" || x.letter == "A" {
			isNone(t, x.n, api.ErrForm)
			continue
		}
		is(t, x.n, x.letter)
		is(t, twin(x.n), x.letter)
	}
	for _, f := range forms() {
		if !met[f.kind] {
			t.Error("no sample of", f.kind)
		}
	}
	is(t, richProg(), "R")
}

func TestExamples(t *testing.T) {
	is(t, tree(api.TPair, leaf(api.TInt), leaf(api.TBool)), "T")
	is(t, node(api.DVal, "x", leaf(api.EUnit)), "D")
}

// A TCon and an EArm have forms, but no category: they are let in at their own places alone.
func TestConsAndArmsAreOfNoCategory(t *testing.T) {
	con, arm, e, i := node(api.TCon, "A", leaf(api.TInt)), marked(api.EArm, "A", "x", leaf(api.EUnit)), leaf(api.EUnit), leaf(api.TInt)
	isNone(t, con, api.ErrForm)
	isNone(t, arm, api.ErrForm)
	is(t, node(api.TMu, "t", con), "T")
	is(t, tree(api.ECase, e, arm), "E")
	for _, n := range []*api.Node{
		node(api.TMu, "t", arm), node(api.TMu, "t", con, arm), node(api.TMu, "t", i), node(api.PData, "t", i), node(api.DData, "t", con, i), node(api.TCon, "A", con),
		tree(api.ECase, e, con), tree(api.ECase, arm, e), tree(api.ECase, arm, arm), tree(api.ECase, e, e), tree(api.ECase, e, arm, e), tree(api.ECase, e, i, arm), tree(api.EFold, e, arm), tree(api.EFold, i, e, arm), tree(api.EFold, e, i, arm, con),
		tree(api.TArrow, con, i), tree(api.EPair, arm, e), tree(api.Prog, con), tree(api.Prog, arm), tree(api.MStruct, con), tree(api.SBody, con),
	} {
		isNone(t, n, api.ErrForm)
	}
}

func TestListsThatMayBeEmptyAndThoseThatMayNot(t *testing.T) {
	is(t, tree(api.MStruct), "M")
	is(t, &api.Node{Kind: api.MStruct, Kids: []*api.Node{}}, "M")
	is(t, tree(api.SBody), "S")
	is(t, tree(api.Prog), "R")
	is(t, node(api.PType, "t"), "P")
	e, i := leaf(api.EUnit), leaf(api.TInt)
	for _, n := range []*api.Node{
		node(api.TMu, "t"), node(api.PData, "t"), node(api.DData, "t"), tree(api.ECase, e), tree(api.ECase), tree(api.EFold, e, i), tree(api.EFold, e), tree(api.EFold), node(api.DVal, "x"), node(api.DType, "t"),
	} {
		isNone(t, n, api.ErrForm)
	}
}

func TestConstructorsBearNamesOfTheirOwn(t *testing.T) {
	con := func(name string) *api.Node { return node(api.TCon, name, leaf(api.TInt)) }
	for _, x := range []sample{{"T", node(api.TMu, "t")}, {"P", node(api.PData, "t")}, {"D", node(api.DData, "t")}} {
		x.n.Kids = []*api.Node{con("A"), con("B"), con("a"), con("A'"), con("A1")}
		is(t, x.n, x.letter)
		for _, l := range [][]*api.Node{{con("A"), con("A")}, {con("A"), con("B"), con("A")}, {con("B"), con("A"), con("A")}, {con("A"), node(api.TCon, "A", leaf(api.TBool))}} {
			x.n.Kids = l
			isNone(t, x.n, api.ErrForm)
		}
	}
	// Those of another list count for nothing; arms may be of one name.
	is(t, node(api.TMu, "A", node(api.TCon, "A", node(api.TMu, "A", con("A"))), node(api.TCon, "B", node(api.TMu, "A", con("B"), con("A")))), "T")
	is(t, tree(api.Prog, node(api.DData, "t", con("A")), node(api.DData, "t", con("A"))), "R")
	arm := marked(api.EArm, "A", "A", leaf(api.EUnit))
	is(t, tree(api.ECase, leaf(api.EUnit), arm, arm), "E")
}

func TestStructuresHoldNeitherSignaturesNorFunctors(t *testing.T) {
	val, m, s := node(api.DVal, "x", leaf(api.EUnit)), node(api.MPath, "M"), node(api.SName, "S")
	for _, x := range []*api.Node{node(api.DSig, "S", s), marked(api.DFunctor, "F", "X", s, m)} {
		is(t, x, "G")
		is(t, tree(api.Prog, val, x, val), "R")
		for _, n := range []*api.Node{tree(api.MStruct, x), tree(api.MStruct, val, x), tree(api.MStruct, x, val)} {
			isNone(t, n, api.ErrForm)
			isNone(t, node(api.DStruct, "M", n), api.ErrForm)
			isNone(t, tree(api.MStruct, node(api.DStruct, "M", n)), api.ErrForm)
			isNone(t, tree(api.Prog, val, node(api.DStruct, "M", numbered(api.MSeal, 1, n, s))), api.ErrForm)
			isNone(t, marked(api.DFunctor, "F", "X", s, n), api.ErrForm)
		}
	}
}

func TestNumbersAtTheLimits(t *testing.T) {
	e, m, s := leaf(api.EUnit), node(api.MPath, "M"), node(api.SName, "S")
	for _, x := range []struct {
		letter      string
		n           *api.Node
		least, most int
	}{
		{"E", leaf(api.EInt), -1 << 30, 1 << 30}, {"E", leaf(api.EBool), 0, 1}, {"E", tree(api.EOp, e, e), 1, 5}, {"M", tree(api.MSeal, m, s), 0, 1}, {"E", leaf(api.EUnit), 0, 0}, {"T", leaf(api.TInt), 0, 0}, {"R", leaf(api.Prog), 0, 0},
	} {
		for _, n := range []int{x.least, x.most, (x.least + x.most) / 2} {
			x.n.N = n
			is(t, x.n, x.letter)
		}
		for _, n := range []int{x.least - 1, x.most + 1, math.MinInt, math.MaxInt, math.MinInt32 - 1, math.MaxInt32 + 1, 1<<32 + x.least, -1<<32 + x.most} {
			x.n.N = n
			isNone(t, x.n, api.ErrForm)
		}
	}
}

func TestNamesAtTheLimits(t *testing.T) {
	name, long := strings.Repeat("n", 32), strings.Repeat("abcdefg.", 15)+"abcdefgh"
	for _, f := range forms() {
		i := slices.IndexFunc(samples(), func(x sample) bool { return x.n.Kind == f.kind })
		x := samples()[i]
		n := *x.n
		right := map[string]string{"": "", "name": name, "long": long}
		n.Name, n.Mark = right[f.name], right[f.mark]
		whole, letter := within(&n, x.letter)
		is(t, whole, letter)
		n.Name += "a"
		isNone(t, whole, api.ErrForm)
		n.Name, n.Mark = right[f.name], right[f.mark]+"a"
		isNone(t, whole, api.ErrForm)
	}
}

// within puts what has no category into a tree that has one, and tells that one's letter; all else is handed on.
func within(n *api.Node, letter string) (*api.Node, string) {
	switch letter {
	case "C":
		return node(api.TMu, "t", n), "T"
	case "A":
		return tree(api.ECase, leaf(api.EUnit), n), "E"
	}
	return n, letter
}

// P5.1, held against the oracle.

func TestFieldsOfAllSorts(t *testing.T) {
	o := newOracle()
	numbers := []int{0, 1, 2, 5, 6, -1, 1 << 30, -1 << 30, 1<<30 + 1, -1<<30 - 1, math.MinInt, math.MaxInt}
	l := textsOfAllSorts()
	for _, x := range samples() {
		n := *x.n
		whole, _ := within(&n, x.letter)
		for _, n.Name = range l {
			for _, n.Mark = range l {
				o.agrees(t, whole)
			}
		}
		for _, n.Name = range []string{"", "a", "a.b", "1"} {
			for _, n.Mark = range []string{"", "b", "a.b", "1"} {
				for _, n.N = range numbers {
					o.agrees(t, whole)
				}
			}
		}
	}
}

// eachRow hands on each list of up to most of the nodes.
func eachRow(most int, nodes []*api.Node, f func(row []*api.Node)) {
	var grow func(row []*api.Node)
	grow = func(row []*api.Node) {
		f(row)
		if len(row) < most {
			for _, x := range nodes {
				grow(append(slices.Clone(row), x))
			}
		}
	}
	grow(nil)
}

// nodesOfSamples are the trees alone.
func nodesOfSamples(l []sample) []*api.Node {
	var nodes []*api.Node
	for _, x := range l {
		nodes = append(nodes, x.n)
	}
	return nodes
}

// bareForms tells a node of each form, without kids, but with the texts and the number that it asks for.
func bareForms() []*api.Node {
	var l []*api.Node
	for _, f := range forms() {
		text := map[string]string{"": "", "name": "a", "long": "a.b"}
		l = append(l, &api.Node{Kind: f.kind, N: max(f.least, 0), Name: text[f.name], Mark: text[f.mark]})
	}
	return append(l, leaf(0), leaf(9), leaf(-1), leaf(81), leaf(110))
}

func TestKidsOfAllSorts(t *testing.T) {
	o := newOracle()
	few, all := nodesOfSamples(representatives()), nodesOfSamples(samples())
	for _, n := range bareForms() {
		most := 3
		if n.Kind == api.EIf || n.Kind == api.ECase || n.Kind == api.EFold {
			most = 4
		}
		for _, x := range []struct {
			most  int
			nodes []*api.Node
		}{{most, few}, {2, all}} {
			eachRow(x.most, x.nodes, func(row []*api.Node) {
				n.Kids = row
				o.agrees(t, n)
			})
		}
	}
}

// As many kids as a form has, one fewer and one more, at each place.
func TestOneKidFewerAndOneMore(t *testing.T) {
	o := newOracle()
	for _, x := range samples() {
		whole, _ := within(x.n, x.letter)
		for _, of := range []*api.Node{x.n, whole} {
			for i := range of.Kids {
				less := *of
				less.Kids = slices.Concat(of.Kids[:i], of.Kids[i+1:])
				o.agrees(t, &less)
				for _, other := range nodesOfSamples(samples()) {
					instead := *of
					instead.Kids = slices.Concat(of.Kids[:i], []*api.Node{other}, of.Kids[i+1:])
					o.agrees(t, &instead)
				}
			}
			for i := range len(of.Kids) + 1 {
				for _, other := range nodesOfSamples(samples()) {
					more := *of
					more.Kids = slices.Insert(slices.Clone(of.Kids), i, other)
					o.agrees(t, &more)
				}
			}
		}
	}
}

func TestKindsThatAreNone(t *testing.T) {
	known := map[int]bool{}
	for _, f := range forms() {
		known[f.kind] = true
	}
	kinds := []int{math.MinInt, math.MaxInt, 1 << 32, 1<<32 + api.TInt, -1 << 32, math.MinInt32, math.MaxInt32, 1 << 16, -api.EUnit}
	for kind := -20; kind <= 300; kind++ {
		kinds = append(kinds, kind)
	}
	for _, kind := range kinds {
		if known[kind] {
			continue
		}
		for _, kids := range [][]*api.Node{nil, {leaf(api.TInt)}, {leaf(api.TInt), leaf(api.TInt)}, {leaf(api.EUnit)}, {leaf(api.EUnit), leaf(api.EUnit)}, {node(api.DOpen, "a")}} {
			for _, name := range []string{"", "a", "a.b"} {
				isNone(t, &api.Node{Kind: kind, Name: name, Kids: kids}, api.ErrForm)
			}
		}
		isNone(t, tree(api.TPair, leaf(api.TInt), leaf(kind)), api.ErrForm)
		isNone(t, tree(api.Prog, node(api.DVal, "x", leaf(api.EUnit)), leaf(kind)), api.ErrForm)
	}
}

// P5.1: the limits.

// chain puts a node, n times over, on top of a tree: each has the one below as its kid at a place.
func chain(n int, top api.Node, at int, low *api.Node) *api.Node {
	for range n {
		x := top
		x.Kids = slices.Clone(top.Kids)
		x.Kids[at] = low
		low = &x
	}
	return low
}

// deepTrees tells a tree of n nodes above one another, of each category, and of several where a category has more ways down.
func deepTrees(n int) []sample {
	i, e, m, s := leaf(api.TInt), leaf(api.EUnit), node(api.MPath, "M"), node(api.SName, "S")
	return []sample{
		{"T", chain(n-1, *tree(api.TArrow, i, i), 1, i)}, {"T", chain(n-1, *tree(api.TPair, i, i), 0, i)}, {"T", node(api.TMu, "t", node(api.TCon, "A", chain(n-3, *tree(api.TArrow, i, i), 0, i)))},
		{"E", chain(n-1, *tree(api.EFst, e), 0, e)}, {"E", chain(n-1, *node(api.ELam, "x", i, e), 1, e)}, {"E", node(api.ELam, "x", chain(n-2, *tree(api.TPair, i, i), 1, i), e)}, {"E", chain(n-1, *tree(api.EIf, e, e, e), 2, e)},
		{"E", tree(api.ECase, e, marked(api.EArm, "A", "x", chain(n-3, *tree(api.EFst, e), 0, e)))},
		{"M", chain(n-1, *node(api.MApp, "F", m), 0, m)}, {"M", chain(n-1, *numbered(api.MSeal, 1, m, s), 0, m)}, {"M", numbered(api.MSeal, 1, m, chain(n-2, *node(api.SWhere, "t", s, i), 0, s))},
		{"S", chain(n-1, *node(api.SWhere, "t", s, i), 0, s)}, {"S", tree(api.SBody, node(api.PType, "t"), node(api.PVal, "x", chain(n-3, *tree(api.TPair, i, i), 1, i)))},
		{"P", tree(api.PInclude, chain(n-2, *node(api.SWhere, "t", s, i), 0, s))}, {"P", node(api.PType, "t", chain(n-2, *tree(api.TPair, i, i), 1, i))},
		{"D", node(api.DVal, "x", chain(n-2, *tree(api.ESnd, e), 0, e))}, {"D", node(api.DVal, "x", chain(n-2, *tree(api.TPair, i, i), 0, i), e)}, {"G", node(api.DSig, "S", chain(n-2, *node(api.SWhere, "t", s, i), 0, s))}, {"G", marked(api.DFunctor, "F", "X", s, chain(n-2, *node(api.MApp, "F", m), 0, m))},
		{"R", tree(api.Prog, node(api.DOpen, "M"), node(api.DVal, "x", chain(n-3, *tree(api.EFst, e), 0, e)))},
	}
}

func TestTheMostNodesAboveOneAnother(t *testing.T) {
	for _, n := range []int{58, 59, 60} {
		for _, x := range deepTrees(n) {
			is(t, x.n, x.letter)
		}
	}
	for _, n := range []int{61, 62, 64, 127, 1000} {
		for _, x := range deepTrees(n) {
			isNone(t, x.n, api.ErrDeep)
		}
	}
}

// fullExpr tells an expression of 2^n - 1 nodes.
func fullExpr(n int) *api.Node {
	e := leaf(api.EUnit)
	for range n - 1 {
		e = tree(api.EPair, e, e)
	}
	return e
}

// largeTrees tells a tree of n nodes, of each category but types, which have an odd number of them.
func largeTrees(n int) []sample {
	open, spec, e := node(api.DOpen, "M"), node(api.PType, "t"), leaf(api.EUnit)
	return []sample{
		{"M", some(api.MStruct, n-1, open)}, {"S", some(api.SBody, n-1, spec)}, {"P", node(api.PStruct, "M", some(api.SBody, n-2, spec))}, {"D", node(api.DStruct, "M", some(api.MStruct, n-2, open))}, {"R", some(api.Prog, n-1, open)},
		{"G", node(api.DSig, "S", some(api.SBody, n-2, spec))}, {"R", tree(api.Prog, slices.Concat([]*api.Node{node(api.DVal, "x", fullExpr(12))}, slices.Repeat([]*api.Node{open}, n-4097))...)},
		{"E", chain(n-8191, *tree(api.EFst, e), 0, fullExpr(13))},
	}
}

// largeMu tells a type of n nodes, if n is odd.
func largeMu(n int) *api.Node {
	mu := node(api.TMu, "t")
	for i := range n / 2 {
		mu.Kids = append(mu.Kids, node(api.TCon, "A"+strconv.Itoa(i), leaf(api.TInt)))
	}
	return mu
}

func TestTheMostNodes(t *testing.T) {
	for _, n := range []int{8191, 8192} {
		for _, x := range largeTrees(n) {
			is(t, x.n, x.letter)
		}
	}
	for _, n := range []int{8193, 8194, 8200} {
		for _, x := range largeTrees(n) {
			isNone(t, x.n, api.ErrLong)
		}
	}
	is(t, largeMu(8189), "T")
	is(t, largeMu(8191), "T")
	isNone(t, largeMu(8193), api.ErrLong)
	arm := marked(api.EArm, "A", "x", leaf(api.EUnit))
	is(t, tree(api.ECase, slices.Concat([]*api.Node{leaf(api.EUnit)}, slices.Repeat([]*api.Node{arm}, 4095))...), "E")
	isNone(t, tree(api.ECase, slices.Concat([]*api.Node{tree(api.EFst, leaf(api.EUnit))}, slices.Repeat([]*api.Node{arm}, 4095))...), api.ErrLong)
	is(t, tree(api.Prog, slices.Concat(slices.Repeat([]*api.Node{node(api.DOpen, "M")}, 8189), []*api.Node{node(api.DVal, "x", leaf(api.EUnit))})...), "R")
	isNone(t, tree(api.Prog, slices.Concat(slices.Repeat([]*api.Node{node(api.DOpen, "M")}, 8190), []*api.Node{leaf(api.EUnit)})...), api.ErrForm)
}

// P5.1: which error is told, where several apply.

func TestNilAheadOfAllElse(t *testing.T) {
	e, i := leaf(api.EUnit), leaf(api.TInt)
	isNone(t, nil, api.ErrNil)
	for _, n := range []*api.Node{
		tree(api.TPair, i, nil), tree(api.TPair, nil, i), tree(api.TPair, i, i, nil), tree(api.TInt, nil), node(api.DVal, "x", nil), node(api.DVal, "x", nil, e), node(api.PType, "t", nil), tree(api.MStruct, nil), tree(api.Prog, nil), tree(api.SBody, nil, node(api.PType, "t")), node(api.TMu, "t", nil), tree(api.ECase, e, nil),
		tree(api.TPair, i, tree(api.TArrow, i, nil)), tree(api.Prog, node(api.DVal, "x", tree(api.EPair, e, tree(api.EFst, nil)))), tree(api.ECase, e, marked(api.EArm, "A", "x", nil)),
		leafWithNil(0), leafWithNil(-7), leafWithNil(math.MaxInt), tree(0, leaf(0), tree(1, nil)),
		chain(61, *tree(api.TPair, i, i), 0, tree(api.TPair, i, nil)), tree(api.TPair, nil, chain(70, *tree(api.TPair, i, i), 0, i)), chain(70, *tree(api.EFst, e), 0, nil),
		some(api.Prog, 8193, node(api.DOpen, "M"), nil), tree(api.Prog, nil, some(api.MStruct, 9000, node(api.DOpen, "M"))), tree(api.Prog, some(api.MStruct, 9000, node(api.DOpen, "M")), nil), some(api.Prog, 9000, nil),
		tree(api.Prog, some(api.MStruct, 9000, node(api.DOpen, "M")), chain(70, *tree(api.EFst, e), 0, nil)),
	} {
		isNone(t, n, api.ErrNil)
	}
}

func leafWithNil(kind int) *api.Node { return tree(kind, nil) }

func TestANilAtEachPlace(t *testing.T) {
	n := twin(richProg())
	for _, x := range nodesOf(n) {
		for i, was := range x.Kids {
			x.Kids[i] = nil
			if e := shape.Prog(n); e != api.ErrNil {
				t.Error(x.Kind, i, int(e))
			}
			x.Kids[i] = was
		}
	}
	is(t, n, "R")
}

func TestLongAheadOfDeepAndForm(t *testing.T) {
	e := leaf(api.EUnit)
	deep := chain(70, *tree(api.EFst, e), 0, e)
	for _, n := range []*api.Node{
		some(api.EPair, 200, deep), chain(61, *tree(api.EFst, e), 0, fullExpr(13)), chain(8192, *tree(api.EFst, e), 0, e), chain(1<<16, *tree(api.EFst, e), 0, e),
		some(0, 8192, leaf(0)), some(api.Prog, 8192, e), fullExpr(14), fullExpr(40), fullExpr(64), fullExpr(100), tree(0, fullExpr(50)), some(api.TInt, 8192, leaf(api.TInt)),
	} {
		isNone(t, n, api.ErrLong)
	}
	isNone(t, chain(8191, *tree(api.EFst, e), 0, e), api.ErrDeep)
}

func TestDeepAheadOfForm(t *testing.T) {
	i := leaf(api.TInt)
	for _, n := range []*api.Node{
		chain(60, *tree(api.TPair, i, i), 0, leaf(0)), chain(60, *tree(0, i), 0, i), chain(60, *tree(api.TPair, i, i, i), 2, i), chain(60, *node(api.TPair, "a", i, i), 0, i), tree(0, leaf(0), chain(59, *tree(api.TPair, i, i), 0, i)), tree(api.TInt, chain(59, *tree(api.TPair, i, i), 0, i)),
	} {
		isNone(t, n, api.ErrDeep)
	}
	isNone(t, chain(59, *tree(api.TPair, i, i), 0, leaf(0)), api.ErrForm)
}

// P5.2.

func TestWhatLiesInATreeThatHasAFormHasOne(t *testing.T) {
	letters := map[int]string{}
	for _, f := range forms() {
		letters[f.kind] = f.letter
	}
	met := map[int]bool{}
	for _, x := range nodesOf(richProg()) {
		met[x.Kind] = true
		whole, letter := within(x, letters[x.Kind])
		is(t, whole, letter)
		if whole != x {
			isNone(t, x, api.ErrForm)
		}
	}
	if len(met) != len(forms()) {
		t.Error(len(met), "kinds stand in the program")
	}
}

// changes tells what a change of one field, or of the list of kids, makes of a node.
func changes(n api.Node) []api.Node {
	l := slices.Repeat([]api.Node{n}, 8)
	l[0].Kind = 0
	l[1].N += 1 << 31
	l[2].Mark += "\xff"
	l[3].Name += " "
	l[4].Kids = slices.Concat(n.Kids, []*api.Node{leaf(0)})
	l[5].Kids = slices.Concat([]*api.Node{leaf(api.Prog)}, n.Kids)
	l[6].Name = strings.Repeat("a", 129)
	l[7].Kind += 100
	for i, kid := range n.Kids {
		worse := *kid
		worse.Mark += "."
		x := n
		x.Kids = slices.Clone(n.Kids)
		x.Kids[i] = &worse
		l = append(l, x)
	}
	return l
}

// What is wrong anywhere in a tree is wrong for the whole of it.
func TestAWrongPartAtEachPlace(t *testing.T) {
	n := twin(richProg())
	for _, x := range nodesOf(n) {
		was := *x
		for _, now := range changes(was) {
			*x = now
			isNone(t, n, api.ErrForm)
		}
		*x = was
	}
	is(t, n, "R")
}

func TestAnotherSampleAtEachPlace(t *testing.T) {
	o := newOracle()
	n := twin(richProg())
	for _, x := range nodesOf(n) {
		was := *x
		for _, other := range representatives() {
			*x = *other.n
			o.agrees(t, n)
		}
		*x = was
	}
}

// Rules 1 and 4.

func TestWhatIsHandedInStaysAsItWas(t *testing.T) {
	l := []*api.Node{twin(richProg()), richProg(), twin(some(api.Prog, 9000, node(api.DOpen, "M"))), twin(tree(api.Prog, nil, leaf(api.Prog))), twin(largeMu(101)), fullExpr(40)}
	for _, x := range samples() {
		whole, _ := within(x.n, x.letter)
		l = append(l, twin(x.n), twin(whole))
	}
	for _, n := range l {
		kept := freeze(n)
		for _, c := range categories() {
			first := c.ask(n)
			if again := c.ask(n); again != first {
				t.Error(c.letters, int(first), int(again))
			}
		}
		if !kept() {
			t.Errorf("%+v", n)
		}
	}
}

// Of trees that lie in themselves no more is promised than that each call ends.
func TestCallsEndOnTreesThatLieInThemselves(t *testing.T) {
	e := leaf(api.EUnit)
	for _, n := range []*api.Node{tree(api.TPair, nil, leaf(api.TInt)), tree(api.EPair, e, nil), tree(api.Prog, nil), tree(api.MStruct, node(api.DOpen, "M"), nil), node(api.MApp, "F", nil)} {
		n.Kids[slices.Index(n.Kids, nil)] = n
		for _, c := range categories() {
			if c.ask(n) == api.OK {
				t.Error(n.Kind)
			}
		}
	}
}
