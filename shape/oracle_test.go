package shape_test

import (
	"regexp"
	"slices"
	"strings"

	"marquetry/api"
)

// oracle_test.go tells of what category a tree is by a table of letters and patterns, from the leaves up, and all measures by lists of nodes: it shares nothing with the package.

// The letters: T a type, C a TCon, E an expression, A an EArm, M a module, S a signature, P a specification, D a declaration that may lie within a structure, G one that may not, R a program, x what has no form.
type form struct {
	kind        int
	letter      string
	least, most int
	name, mark  string // empty, name, long
	kids        string // a pattern of their letters
}

func forms() []form {
	most := 1 << 30
	return []form{
		{api.TInt, "T", 0, 0, "", "", ""},
		{api.TBool, "T", 0, 0, "", "", ""},
		{api.TUnit, "T", 0, 0, "", "", ""},
		{api.TName, "T", 0, 0, "long", "", ""},
		{api.TArrow, "T", 0, 0, "", "", "TT"},
		{api.TPair, "T", 0, 0, "", "", "TT"},
		{api.TMu, "T", 0, 0, "name", "", "C+"},
		{api.TCon, "C", 0, 0, "name", "", "T"},
		{api.EInt, "E", -most, most, "", "", ""},
		{api.EBool, "E", 0, 1, "", "", ""},
		{api.EUnit, "E", 0, 0, "", "", ""},
		{api.EVar, "E", 0, 0, "long", "", ""},
		{api.ELam, "E", 0, 0, "name", "", "TE"},
		{api.EApp, "E", 0, 0, "", "", "EE"},
		{api.EPair, "E", 0, 0, "", "", "EE"},
		{api.EFst, "E", 0, 0, "", "", "E"},
		{api.ESnd, "E", 0, 0, "", "", "E"},
		{api.ELet, "E", 0, 0, "name", "", "EE"},
		{api.EIf, "E", 0, 0, "", "", "EEE"},
		{api.EOp, "E", 1, 5, "", "", "EE"},
		{api.ECase, "E", 0, 0, "", "", "EA+"},
		{api.EFold, "E", 0, 0, "", "", "ETA+"},
		{api.EArm, "A", 0, 0, "name", "name", "E"},
		{api.MStruct, "M", 0, 0, "", "", "D*"},
		{api.MPath, "M", 0, 0, "long", "", ""},
		{api.MApp, "M", 0, 0, "name", "", "M"},
		{api.MSeal, "M", 0, 1, "", "", "MS"},
		{api.SBody, "S", 0, 0, "", "", "P*"},
		{api.SName, "S", 0, 0, "name", "", ""},
		{api.SWhere, "S", 0, 0, "long", "", "ST"},
		{api.PVal, "P", 0, 0, "name", "", "T"},
		{api.PType, "P", 0, 0, "name", "", "T?"},
		{api.PData, "P", 0, 0, "name", "", "C+"},
		{api.PStruct, "P", 0, 0, "name", "", "S"},
		{api.PInclude, "P", 0, 0, "", "", "S"},
		{api.PShare, "P", 0, 0, "long", "long", ""},
		{api.DVal, "D", 0, 0, "name", "", "T?E"},
		{api.DType, "D", 0, 0, "name", "", "T"},
		{api.DData, "D", 0, 0, "name", "", "C+"},
		{api.DStruct, "D", 0, 0, "name", "", "M"},
		{api.DSig, "G", 0, 0, "name", "", "S"},
		{api.DFunctor, "G", 0, 0, "name", "name", "SM"},
		{api.DOpen, "D", 0, 0, "long", "", ""},
		{api.DInclude, "D", 0, 0, "long", "", ""},
		{api.Prog, "R", 0, 0, "", "", "[DG]*"},
	}
}

// oracle is the table, with its patterns made.
type oracle struct {
	forms map[int]form
	kids  map[int]*regexp.Regexp
}

func newOracle() oracle {
	o := oracle{map[int]form{}, map[int]*regexp.Regexp{}}
	for _, f := range forms() {
		o.forms[f.kind] = f
		o.kids[f.kind] = regexp.MustCompile("^" + f.kids + "$")
	}
	return o
}

// letter tells what a tree is that may have nils in it.
func (o oracle) letter(n *api.Node) string {
	if n == nil {
		return "x"
	}
	f, ok := o.forms[n.Kind]
	below, conNames := "", []string{}
	for _, kid := range n.Kids {
		below += o.letter(kid)
		if kid != nil && kid.Kind == api.TCon {
			conNames = append(conNames, kid.Name)
		}
	}
	slices.Sort(conNames)
	if !ok || n.N < f.least || n.N > f.most || !isText(n.Name, f.name) || !isText(n.Mark, f.mark) || !o.kids[n.Kind].MatchString(below) || len(slices.Compact(slices.Clone(conNames))) != len(conNames) {
		return "x"
	}
	return f.letter
}

// answer tells what every category answers of a tree, if it is not OK; else the tree's letter.
func (o oracle) answer(n *api.Node) (string, api.Errno) {
	size, deep, gap := measures(n)
	switch {
	case gap:
		return "", api.ErrNil
	case size > 8192:
		return "", api.ErrLong
	case deep > 60:
		return "", api.ErrDeep
	}
	return o.letter(n), api.OK
}

// measures goes down a tree level by level.
func measures(n *api.Node) (size, deep int, gap bool) {
	for level := []*api.Node{n}; len(level) > 0; deep++ {
		var next []*api.Node
		for _, x := range level {
			if x == nil {
				gap = true
				continue
			}
			size++
			next = append(next, x.Kids...)
		}
		level = next
	}
	return size, deep, gap
}

const listOfWords = "val type datatype structure signature functor open include struct end sig where sharing fn let in if then else case fold of to int bool unit true false mu"

var (
	words     = strings.Fields(listOfWords)
	nameSigns = regexp.MustCompile(`^[A-Za-z_\x{80}-\x{FFFC}\x{FFFE}-\x{10FFFF}][A-Za-z_\x{80}-\x{FFFC}\x{FFFE}-\x{10FFFF}0-9']*$`)
)

// isText tells whether a text is what a form asks for.
func isText(s, asked string) bool {
	if asked == "" || asked == "long" && len(s) > 128 {
		return s == "" && asked == ""
	}
	pieces := []string{s}
	if asked == "long" {
		pieces = strings.Split(s, ".")
	}
	return !slices.ContainsFunc(pieces, func(x string) bool {
		return len(x) > 32 || !nameSigns.MatchString(x) || slices.Contains(words, x)
	})
}

// leaf, tree and node make nodes of what is at hand.
func leaf(kind int) *api.Node { return &api.Node{Kind: kind} }

func tree(kind int, kids ...*api.Node) *api.Node { return &api.Node{Kind: kind, Kids: kids} }

func node(kind int, name string, kids ...*api.Node) *api.Node {
	return &api.Node{Kind: kind, Name: name, Kids: kids}
}

func marked(kind int, name, mark string, kids ...*api.Node) *api.Node {
	return &api.Node{Kind: kind, Name: name, Mark: mark, Kids: kids}
}

func numbered(kind, n int, kids ...*api.Node) *api.Node {
	return &api.Node{Kind: kind, N: n, Kids: kids}
}

// sample is a tree of the least kids that its form has, and its letter.
type sample struct {
	letter string
	n      *api.Node
}

// representatives tells one of each letter, and some that have no form.
func representatives() []sample {
	return []sample{
		{"T", leaf(api.TInt)}, {"C", node(api.TCon, "A", leaf(api.TInt))}, {"C", node(api.TCon, "B", leaf(api.TBool))},
		{"E", leaf(api.EUnit)}, {"A", marked(api.EArm, "A", "x", leaf(api.EUnit))}, {"M", node(api.MPath, "M")}, {"S", node(api.SName, "S")},
		{"P", node(api.PType, "t")}, {"D", node(api.DOpen, "M")}, {"G", node(api.DSig, "S", node(api.SName, "S"))}, {"R", leaf(api.Prog)}, {"x", leaf(0)},
	}
}

// samples tells one tree of each form, or more, if a form has kids of several kinds.
func samples() []sample {
	i, e, m, s := leaf(api.TInt), leaf(api.EUnit), node(api.MPath, "M.N"), node(api.SName, "S")
	a, b := node(api.TCon, "A", i), node(api.TCon, "B", leaf(api.TBool))
	arm, other := marked(api.EArm, "A", "x", e), marked(api.EArm, "B", "y'", numbered(api.EInt, 7))
	val, open := node(api.DVal, "x", e), node(api.DOpen, "M")
	sig, fun := node(api.DSig, "S", tree(api.SBody)), marked(api.DFunctor, "F", "X", s, m)
	return []sample{
		{"T", i}, {"T", leaf(api.TBool)}, {"T", leaf(api.TUnit)}, {"T", node(api.TName, "t")}, {"T", node(api.TName, "a.b.t")},
		{"T", tree(api.TArrow, i, leaf(api.TBool))}, {"T", tree(api.TPair, leaf(api.TUnit), i)}, {"T", node(api.TMu, "t", a)}, {"T", node(api.TMu, "t", a, b)},
		{"C", a},
		{"E", leaf(api.EInt)}, {"E", numbered(api.EInt, -5)}, {"E", numbered(api.EBool, 0)}, {"E", numbered(api.EBool, 1)}, {"E", e}, {"E", node(api.EVar, "x")}, {"E", node(api.EVar, "A.x")},
		{"E", node(api.ELam, "x", i, e)}, {"E", tree(api.EApp, node(api.EVar, "f"), e)}, {"E", tree(api.EPair, e, e)}, {"E", tree(api.EFst, e)}, {"E", tree(api.ESnd, e)},
		{"E", node(api.ELet, "x", e, e)}, {"E", tree(api.EIf, numbered(api.EBool, 1), e, e)}, {"E", numbered(api.EOp, 1, e, e)}, {"E", numbered(api.EOp, 2, e, e)}, {"E", numbered(api.EOp, 3, e, e)}, {"E", numbered(api.EOp, 4, e, e)}, {"E", numbered(api.EOp, 5, e, e)},
		{"E", tree(api.ECase, e, arm)}, {"E", tree(api.ECase, e, arm, other)}, {"E", tree(api.ECase, e, arm, arm)}, {"E", tree(api.EFold, e, i, arm)}, {"E", tree(api.EFold, e, i, arm, other, arm)},
		{"A", arm},
		{"M", tree(api.MStruct)}, {"M", tree(api.MStruct, val)}, {"M", tree(api.MStruct, val, open, val)}, {"M", node(api.MPath, "M")}, {"M", m}, {"M", node(api.MApp, "F", m)}, {"M", numbered(api.MSeal, 0, m, s)}, {"M", numbered(api.MSeal, 1, m, s)},
		{"S", tree(api.SBody)}, {"S", tree(api.SBody, node(api.PType, "t"), node(api.PType, "t"))}, {"S", s}, {"S", node(api.SWhere, "t", s, i)}, {"S", node(api.SWhere, "M.t", s, i)},
		{"P", node(api.PVal, "x", i)}, {"P", node(api.PType, "t")}, {"P", node(api.PType, "t", i)}, {"P", node(api.PData, "t", a)}, {"P", node(api.PData, "t", b, a)}, {"P", node(api.PStruct, "M", s)}, {"P", tree(api.PInclude, s)}, {"P", marked(api.PShare, "t", "u")}, {"P", marked(api.PShare, "M.t", "N.u")},
		{"D", val}, {"D", node(api.DVal, "x", i, e)}, {"D", node(api.DType, "t", i)}, {"D", node(api.DData, "t", a)}, {"D", node(api.DData, "t", a, b)}, {"D", node(api.DStruct, "M", m)}, {"D", open}, {"D", node(api.DOpen, "M.N")}, {"D", node(api.DInclude, "M")}, {"D", node(api.DInclude, "M.N")},
		{"G", sig}, {"G", fun},
		{"R", tree(api.Prog)}, {"R", tree(api.Prog, val)}, {"R", tree(api.Prog, sig, val, fun, open)},
	}
}

// richProg is a program in which each form stands.
func richProg() *api.Node {
	var types, exprs, mods, sigs, specs, decls []*api.Node
	for _, x := range samples() {
		switch x.letter {
		case "T":
			types = append(types, x.n)
		case "E":
			exprs = append(exprs, x.n)
		case "M":
			mods = append(mods, x.n)
		case "S":
			sigs = append(sigs, x.n)
		case "P":
			specs = append(specs, x.n)
		case "D", "G":
			decls = append(decls, x.n)
		}
	}
	for i, x := range exprs {
		decls = append(decls, node(api.DVal, "x", types[i%len(types)], x))
	}
	for i, x := range mods {
		decls = append(decls, marked(api.DFunctor, "F", "X", sigs[i%len(sigs)], tree(api.MStruct, node(api.DStruct, "A", numbered(api.MSeal, i%2, x, tree(api.SBody, specs...))))))
	}
	return tree(api.Prog, decls...)
}

// twin tells a tree that is the same, in which each list of kids has something behind its length.
func twin(n *api.Node) *api.Node {
	if n == nil {
		return nil
	}
	x := *n
	x.Kids = nil
	for _, kid := range n.Kids {
		x.Kids = append(x.Kids, twin(kid))
	}
	x.Kids = append(x.Kids, leaf(99), nil, leaf(api.TInt))[:len(n.Kids)]
	return &x
}

// nodesOf tells the nodes of a whole tree.
func nodesOf(n *api.Node) []*api.Node {
	l := []*api.Node{n}
	for _, kid := range n.Kids {
		l = append(l, nodesOf(kid)...)
	}
	return l
}

// freeze tells a question: whether a tree is what it was now, node by node, with what stands behind its lists.
func freeze(n *api.Node) func() bool {
	nodes := map[*api.Node]api.Node{}
	lists := map[*api.Node][]*api.Node{}
	var walk func(n *api.Node)
	walk = func(n *api.Node) {
		if _, met := nodes[n]; met || n == nil {
			return
		}
		nodes[n] = *n
		lists[n] = slices.Clone(n.Kids[:cap(n.Kids)])
		for _, kid := range lists[n] {
			walk(kid)
		}
	}
	walk(n)
	return func() bool {
		for x, was := range nodes {
			if x.Kind != was.Kind || x.N != was.N || x.Name != was.Name || x.Mark != was.Mark || len(x.Kids) != len(was.Kids) || !slices.Equal(x.Kids[:cap(x.Kids)], lists[x]) {
				return false
			}
		}
		return true
	}
}

// some tells a tree of a list's elements as kids, many times over.
func some(kind int, n int, kids ...*api.Node) *api.Node {
	return tree(kind, slices.Repeat(kids, n)...)
}

// piece is a name of n bytes.
func piece(n int) string { return strings.Repeat("a", n) }

// textsOfAllSorts are names and long names, with those at the limits, and texts that are none.
func textsOfAllSorts() []string {
	p := piece(31) + "."
	return []string{"", "a", "_'1", "\u00e9", "vals", "a.b", "a.b.c'", piece(32), piece(32) + "." + piece(32), strings.Repeat("\u00e9", 16), p + p + p + piece(32), strings.Repeat("a.", 63) + "aa",
		"val", "mu", "a.val", "end.a", "1", "1a", "'a", " ", "a ", "a b", "a..b", ".a", "a.", ".", "a.1", "a\n", "a-b", "\xff", "a.\xff", "\ufffd", "\x00",
		piece(33), strings.Repeat("\u00e9", 16) + "a", p + p + p + piece(33), p + p + p + piece(32) + "a", strings.Repeat("a.", 64) + "a", piece(33) + ".a", strings.Repeat("a", 1<<16)}
}
