package ctor_test

import (
	"math"
	"regexp"
	"slices"
	"strconv"
	"strings"

	"marquetry/api"
)

// oracle_test.go tells what has a form by a table of letters and patterns, from the leaves up; what a variable means by the height of its binder over the root, not by a count of binders between; and texts by rows of a table. It shares nothing with the package.

// The letters: K a kind, C a constructor, F a CField, S a CCase, x what has no form.
type form struct {
	kind   int
	letter string
	most   int    // N, from 0 on
	label  bool   // has it one, or no name
	kids   string // a pattern of their letters
	names  string // of the kids: rise, differ, or any
	text   string // %% stands for the kids, with join between each two; $ is $ and N, a = at the beginning the name
	join   string
}

func forms() []form {
	return []form{
		{api.KStar, "K", 0, false, "", "", "*", ""},
		{api.KArrow, "K", 0, false, "KK", "", "( %% )", " -> "},
		{api.CVar, "C", 65536, false, "", "", "$", ""},
		{api.CInt, "C", 0, false, "", "", "int", ""},
		{api.CBool, "C", 0, false, "", "", "bool", ""},
		{api.CUnit, "C", 0, false, "", "", "unit", ""},
		{api.CArrow, "C", 0, false, "CC", "", "( %% )", " -> "},
		{api.CApp, "C", 0, false, "CC", "", "( %% )", " "},
		{api.CRec, "C", 0, false, "F*", "rise", "{ %% }", " , "},
		{api.CField, "F", 0, true, "C", "", "= = %%", ""},
		{api.CAll, "C", 0, false, "KC", "", "( all %% )", " . "},
		{api.CEx, "C", 0, false, "KC", "", "( ex %% )", " . "},
		{api.CLam, "C", 0, false, "KC", "", "( fn %% )", " . "},
		{api.CSum, "C", 0, false, "S+", "differ", "mu { %% }", " | "},
		{api.CCase, "S", 0, true, "C", "", "= of %%", ""},
	}
}

// oracle is the table, with its patterns made.
type oracle struct {
	forms map[int]form
	kids  map[int]*regexp.Regexp
}

func newOracle() oracle {
	o := oracle{map[int]form{}, map[int]*regexp.Regexp{}}
	for _, f := range forms() {
		o.forms[f.kind] = f
		o.kids[f.kind] = regexp.MustCompile("^(" + f.kids + ")$")
	}
	return o
}

// letter tells what a whole tree is.
func (o oracle) letter(n *api.Node) string {
	f, ok := o.forms[n.Kind]
	below, names := "", []string{}
	for _, kid := range n.Kids {
		below += o.letter(kid)
		names = append(names, kid.Name)
	}
	sorted := slices.Compact(slices.Sorted(slices.Values(names)))
	switch {
	case !ok, n.N < 0, n.N > f.most, n.Mark != "", !o.kids[n.Kind].MatchString(below):
		return "x"
	case f.label && (n.Name == "" || len(n.Name) > 160), !f.label && n.Name != "":
		return "x"
	case f.names == "rise" && !slices.Equal(sorted, names), f.names == "differ" && len(sorted) != len(names):
		return "x"
	}
	return f.letter
}

// answer tells what Check, or Kind, should answer of a tree, by the letter that it asks for.
func (o oracle) answer(n *api.Node, letter string) api.Errno {
	size, gap := measures(n)
	switch {
	case gap:
		return api.ErrNil
	case size > 65536:
		return api.ErrLong
	case o.letter(n) != letter:
		return api.ErrForm
	}
	return api.OK
}

// measures goes down a tree level by level.
func measures(n *api.Node) (size int, gap bool) {
	for level := []*api.Node{n}; len(level) > 0; {
		var next []*api.Node
		for _, x := range level {
			if x == nil {
				gap = true
				continue
			}
			size++
			next = append(next, x.Kids...)
		}
		level = next
	}
	return size, gap
}

// show writes a tree that has a form.
func (o oracle) show(n *api.Node) string {
	f := o.forms[n.Kind]
	var texts []string
	for _, kid := range n.Kids {
		texts = append(texts, o.show(kid))
	}
	var words []string
	for i, word := range strings.Split(f.text, " ") {
		switch {
		case word == "%%" && len(texts) == 0:
			continue
		case word == "%%":
			word = strings.Join(texts, f.join)
		case word == "$":
			word += strconv.Itoa(n.N)
		case word == "=" && i == 0:
			word = n.Name
		}
		words = append(words, word)
	}
	return strings.Join(words, " ")
}

// naming tells how a free variable is written that lies below so many binders.
type naming func(i, deep int) string

func plainName(i, _ int) string { return "free " + strconv.Itoa(i) }

// sense writes all of a constructor, with what each variable means: a bound one by the height of its binder, from the root on, a free one as it is asked. What stands below the root of another one begins as deep there; from is how deep that is.
func sense(n *api.Node, from int, free naming) string {
	var b strings.Builder
	var walk func(n *api.Node, deep int)
	walk = func(n *api.Node, deep int) {
		height := deep - 1 - n.N
		switch {
		case n.Kind == api.CVar && height >= from:
			b.WriteString("<bound " + strconv.Itoa(height) + ">")
			return
		case n.Kind == api.CVar:
			b.WriteString("<" + free(from-1-height, deep) + ">")
			return
		}
		b.WriteString("<" + strconv.Itoa(n.Kind) + " " + strconv.Itoa(n.N) + strconv.Quote(n.Name) + strconv.Quote(n.Mark))
		for i, kid := range n.Kids {
			below := deep
			switch {
			case n.Kind == api.CSum:
				below++
			case i == 1 && (n.Kind == api.CAll || n.Kind == api.CEx || n.Kind == api.CLam):
				below++
			}
			walk(kid, below)
		}
		b.WriteString(">")
	}
	walk(n, from)
	return b.String()
}

// frees tells the free variables of a constructor, each once for each place, and what number stands there.
func frees(n *api.Node) (numbers, marks []int) {
	sense(n, 0, func(i, deep int) string {
		numbers, marks = append(numbers, i), append(marks, i+deep)
		return ""
	})
	return numbers, marks
}

// shiftedSense tells the sense of what Shift should answer, and the error.
func shiftedSense(n *api.Node, by, from int) (string, api.Errno) {
	numbers, marks := frees(n)
	for k, i := range numbers {
		if more := float64(by); i >= from && (float64(i)+more < 0 || float64(marks[k])+more > 65536) { // floats don't wrap round
			return "", api.ErrArg
		}
	}
	if from < 0 {
		return "", api.ErrArg
	}
	return sense(n, 0, func(i, deep int) string {
		if i >= from {
			i += by
		}
		return plainName(i, deep)
	}), api.OK
}

// putSense tells the sense of what Subst should answer, and the error: by is written in the place of each free variable i, at the height of that place.
func putSense(n *api.Node, i int, by *api.Node) (string, api.Errno) {
	if i < 0 {
		return "", api.ErrArg
	}
	size, _ := measures(n)
	more, _ := measures(by)
	_, marks := frees(by)
	high := false
	s := sense(n, 0, func(j, deep int) string {
		switch {
		case j > i:
			return plainName(j-1, deep)
		case j < i:
			return plainName(j, deep)
		}
		size += more - 1
		high = high || len(marks) > 0 && slices.Max(marks)+deep > 65536
		text := sense(by, deep, plainName)
		return text[1 : len(text)-1]
	})
	if size > 65536 || high {
		return "", api.ErrLong
	}
	return s, api.OK
}

// node, tree, leaf, v, part make nodes of what is at hand.
func node(kind, n int, name, mark string, kids ...*api.Node) *api.Node {
	return &api.Node{Kind: kind, N: n, Name: name, Mark: mark, Kids: kids}
}

func tree(kind int, kids ...*api.Node) *api.Node { return &api.Node{Kind: kind, Kids: kids} }
func leaf(kind int) *api.Node                    { return &api.Node{Kind: kind} }
func v(n int) *api.Node                          { return &api.Node{Kind: api.CVar, N: n} }
func star() *api.Node                            { return leaf(api.KStar) }

func all(n *api.Node) *api.Node { return tree(api.CAll, star(), n) }
func ex(n *api.Node) *api.Node  { return tree(api.CEx, star(), n) }
func fn(n *api.Node) *api.Node  { return tree(api.CLam, star(), n) }

func arrow(a, b *api.Node) *api.Node { return tree(api.CArrow, a, b) }
func app(a, b *api.Node) *api.Node   { return tree(api.CApp, a, b) }

func field(label string, n *api.Node) *api.Node { return node(api.CField, 0, label, "", n) }
func kase(label string, n *api.Node) *api.Node  { return node(api.CCase, 0, label, "", n) }
func rec(fields ...*api.Node) *api.Node         { return tree(api.CRec, fields...) }
func sum(cases ...*api.Node) *api.Node          { return tree(api.CSum, cases...) }

// within puts a constructor below so many binders, of all kinds by turns.
func within(deep int, n *api.Node) *api.Node {
	for i := range deep {
		switch i % 4 {
		case 0:
			n = all(n)
		case 1:
			n = sum(kase("A", n))
		case 2:
			n = fn(n)
		case 3:
			n = ex(n)
		}
	}
	return n
}

// full is arrows over 2^deep leaves: 2^(deep+1)-1 nodes. The last leaf is another one.
func full(deep int, x, last *api.Node) *api.Node {
	if deep == 0 {
		return last
	}
	return arrow(full(deep-1, x, x), full(deep-1, x, last))
}

// shared is such a tree of few nodes: each below the root stands at two places of the one above.
func shared(deep int, x *api.Node) *api.Node {
	for range deep {
		x = arrow(x, x)
	}
	return x
}

// combined tells what is one step above the constructors at hand.
func combined(kinds, l []*api.Node) []*api.Node {
	var made []*api.Node
	for _, x := range l {
		made = append(made, rec(field("a", x)), rec(field("bb", x)), sum(kase("A", x)), sum(kase("B", x)))
		for _, k := range kinds {
			made = append(made, tree(api.CAll, k, x), tree(api.CEx, k, x), tree(api.CLam, k, x))
		}
		for _, y := range l {
			made = append(made, arrow(x, y), app(x, y))
		}
	}
	return made
}

// smallCons tells many constructors: the leaves, all that are one step above them, and all that are two steps above a few of them.
func smallCons() []*api.Node {
	kinds := []*api.Node{star(), tree(api.KArrow, star(), star())}
	leaves := []*api.Node{v(0), v(1), v(2), v(3), leaf(api.CInt), leaf(api.CBool), leaf(api.CUnit), rec()}
	one := combined(kinds, leaves)
	for _, x := range leaves {
		one = append(one, rec(field("a", x), field("b", v(1)), field("c", leaf(api.CInt))), sum(kase("B", v(0)), kase("A", x)), sum(kase("A", rec(field("1", x), field("2", v(0))))))
	}
	two := combined(kinds[:1], slices.Concat(leaves[:2], one[:60]))
	return slices.Concat(leaves, one, two)
}

// nested tells constructors with several binders above one another, and variables that mean each of them, and some outside.
func nested() []*api.Node {
	var l []*api.Node
	for deep := range 7 {
		for n := range 10 {
			l = append(l, within(deep, v(n)), within(deep, arrow(v(n), app(v(n/2), leaf(api.CInt)))))
		}
	}
	x := app(arrow(v(0), v(1)), rec(field("a", v(2)), field("b", all(arrow(v(0), arrow(v(2), v(4)))))))
	return append(l, x, all(x), arrow(x, fn(app(x, x))), sum(kase("A", x), kase("B", ex(x)), kase("0", within(5, x))))
}

// samples tells trees in which each form stands, and their letters.
func samples() map[string][]*api.Node {
	i, k := leaf(api.CInt), star()
	to := tree(api.KArrow, k, k)
	return map[string][]*api.Node{
		"K": {k, to, tree(api.KArrow, to, k), tree(api.KArrow, k, to), tree(api.KArrow, to, tree(api.KArrow, to, to))},
		"C": {
			v(0), v(7), v(65535), v(65536), i, leaf(api.CBool), leaf(api.CUnit), arrow(i, v(1)), app(v(0), i), rec(), rec(field("a", i)), rec(field("a", i), field("b", v(0))),
			all(v(0)), ex(v(1)), fn(i), tree(api.CAll, to, app(v(0), i)), tree(api.CEx, to, i), tree(api.CLam, to, fn(app(v(1), v(0)))),
			sum(kase("A", i)), sum(kase("N", leaf(api.CUnit)), kase("C", rec(field("1", v(1)), field("2", v(0))))), sum(kase("B", i), kase("A", i), kase("C", i)),
		},
		"F": {field("a", i), field("v:x", arrow(i, i))},
		"S": {kase("A", i), kase("\xff", v(3))},
		"x": {leaf(0), leaf(api.TInt), leaf(api.XUnit), leaf(-1), leaf(math.MaxInt), v(-1), sum(), arrow(i, k), tree(api.KArrow, k, i)},
	}
}

// richCon is a constructor in which each form stands, and no variable that is near the greatest one.
func richCon() *api.Node {
	var fields, cases []*api.Node
	s := samples()
	for i, x := range s["C"] {
		if x.N > 100 {
			continue
		}
		fields = append(fields, field("f"+strconv.Itoa(100+i), x))
		cases = append(cases, kase("c"+strconv.Itoa(100-i), arrow(x, v(i%3))))
	}
	x := arrow(rec(fields...), sum(cases...))
	for i, k := range s["K"] {
		x = tree([]int{api.CAll, api.CEx, api.CLam}[i%3], k, app(x, v(i)))
	}
	return x
}

// guarded tells a tree that is the same, in which each list of kids has something behind its length.
func guarded(n *api.Node) *api.Node {
	if n == nil {
		return nil
	}
	x := *n
	x.Kids = nil
	for _, kid := range n.Kids {
		x.Kids = append(x.Kids, guarded(kid))
	}
	x.Kids = append(x.Kids, leaf(99), nil, v(3))[:len(n.Kids)]
	return &x
}

// freeze tells a question: whether a tree is what it was now, node by node, with what stands behind its lists.
func freeze(n *api.Node) func() bool {
	nodes := map[*api.Node]api.Node{}
	lists := map[*api.Node][]*api.Node{}
	var walk func(n *api.Node)
	walk = func(n *api.Node) {
		if _, met := nodes[n]; n == nil || met {
			return
		}
		nodes[n] = *n
		lists[n] = slices.Clone(n.Kids[:cap(n.Kids)])
		for _, kid := range lists[n] {
			walk(kid)
		}
	}
	walk(n)
	return func() bool {
		for x, was := range nodes {
			if x.Kind != was.Kind || x.N != was.N || x.Name != was.Name || x.Mark != was.Mark || len(x.Kids) != len(was.Kids) || !slices.Equal(x.Kids[:cap(x.Kids)], lists[x]) {
				return false
			}
		}
		return true
	}
}

// knot is a tree that lies in itself, so many arrows below its root.
func knot(n int) *api.Node {
	last := arrow(leaf(api.CInt), leaf(api.CInt))
	top := last
	for range n {
		top = arrow(leaf(api.CInt), top)
	}
	last.Kids[1] = top
	return top
}

// nodesOf tells the nodes of a whole tree.
func nodesOf(n *api.Node) []*api.Node {
	l := []*api.Node{n}
	for _, kid := range n.Kids {
		l = append(l, nodesOf(kid)...)
	}
	return l
}
