package norm_test

import (
	"slices"
	"strconv"

	"marquetry/api"
)

// oracle_test.go steps by names: each binder has a name of its own, what is put in gets new ones at each place, and numbers are told from the names again. Redexes are looked for level by level, and their paths are put into order. It shares nothing with the package, nor with ctor.

// named is a node of a constructor whose variables and binders have names.
type named struct {
	kind  int
	label string
	name  string // of a variable, or of the one that is bound
	kids  []*named
}

// namer makes names that no binder had.
type namer struct{ count int }

func (x *namer) fresh() string {
	x.count++
	return "bound " + strconv.Itoa(x.count)
}

// binds tells whether a kind of node binds a constructor in its kid at a place.
func binds(kind, kid int) bool {
	switch kind {
	case api.CAll, api.CEx, api.CLam:
		return kid == 1
	}
	return kind == api.CSum
}

// give tells a constructor with names; around is the names of the binders that it lies in, the innermost last.
func (x *namer) give(n *api.Node, around []string) *named {
	m := &named{kind: n.Kind, label: n.Name}
	if n.Kind == api.CVar {
		if n.N < len(around) {
			m.name = around[len(around)-1-n.N]
		} else {
			m.name = "free " + strconv.Itoa(n.N-len(around))
		}
		return m
	}
	m.name = x.fresh()
	for i, kid := range n.Kids {
		inside := around
		if binds(n.Kind, i) {
			inside = append(slices.Clone(around), m.name)
		}
		m.kids = append(m.kids, x.give(kid, inside))
	}
	return m
}

// take tells a constructor with numbers.
func take(m *named, around []string) *api.Node {
	if m.kind == api.CVar {
		if i := slices.Index(around, m.name); i >= 0 {
			return v(len(around) - 1 - i)
		}
		outside, _ := strconv.Atoi(m.name[len("free "):])
		return v(outside + len(around))
	}
	n := &api.Node{Kind: m.kind, Name: m.label}
	for i, kid := range m.kids {
		inside := around
		if binds(m.kind, i) {
			inside = append(slices.Clone(around), m.name)
		}
		n.Kids = append(n.Kids, take(kid, inside))
	}
	return n
}

// again tells a constructor with new names of its binders, and what has a name in it as it is told.
func (x *namer) again(m *named, now map[string]*named) *named {
	if m.kind == api.CVar {
		if by, ok := now[m.name]; ok {
			return by
		}
		return m
	}
	c := &named{kind: m.kind, label: m.label, name: x.fresh()}
	inside := map[string]*named{m.name: {kind: api.CVar, name: c.name}}
	for name, by := range now {
		inside[name] = by
	}
	for _, kid := range m.kids {
		c.kids = append(c.kids, x.again(kid, inside))
	}
	return c
}

// replace tells a constructor in which a name has become another constructor, with new names at each place.
func (x *namer) replace(m *named, name string, by *named) *named {
	if m.kind == api.CVar && m.name == name {
		return x.again(by, nil)
	}
	c := *m
	c.kids = nil
	for _, kid := range m.kids {
		c.kids = append(c.kids, x.replace(kid, name, by))
	}
	return &c
}

// redexes tells the paths of all redexes, in order: a path ahead of those that it begins, lesser places ahead.
func redexes(n *api.Node) [][]int {
	type place struct {
		n    *api.Node
		path []int
	}
	var found [][]int
	for level := []place{{n, nil}}; len(level) > 0; {
		var next []place
		for _, x := range level {
			if x.n.Kind == api.CApp && x.n.Kids[0].Kind == api.CLam {
				found = append(found, x.path)
			}
			for i, kid := range x.n.Kids {
				next = append(next, place{kid, append(slices.Clone(x.path), i)})
			}
		}
		level = next
	}
	slices.SortFunc(found, slices.Compare)
	return found
}

// reduced tells a constructor whose redex at a path has become what it becomes, and that.
func reduced(n *api.Node, path []int) (m, became *api.Node) {
	var x namer
	top := x.give(n, nil)
	here, around := &top, []string(nil)
	for _, i := range path {
		if binds((*here).kind, i) {
			around = append(around, (*here).name)
		}
		here = &(*here).kids[i]
	}
	fn, arg := (*here).kids[0], (*here).kids[1]
	*here = x.replace(fn.kids[1], fn.name, arg)
	return take(top, nil), take(*here, around)
}

// stepOf tells what Step should answer of a constructor.
func stepOf(n *api.Node) (*api.Node, bool, api.Errno) {
	l := redexes(n)
	if len(l) == 0 {
		return nil, false, api.OK
	}
	m, became := reduced(n, l[0])
	if size, most := measures(became); size > 65536 || most > 65536 {
		return nil, false, api.ErrLong
	}
	return m, true, api.OK
}

// normalOf tells what Normal should answer of a constructor, and in how many steps.
func normalOf(n *api.Node) (*api.Node, int, api.Errno) {
	for steps := 0; ; steps++ {
		if len(redexes(n)) == 0 {
			return n, steps, api.OK
		}
		if steps == 1000 {
			return nil, steps, api.ErrFuel
		}
		m, _, e := stepOf(n)
		if e != api.OK {
			return nil, steps, e
		}
		if size, _ := measures(m); size > 65536 {
			return nil, steps, api.ErrLong
		}
		n = m
	}
}

// measures tells how many nodes a whole tree has, and its greatest number.
func measures(n *api.Node) (size, most int) {
	for level := []*api.Node{n}; len(level) > 0; {
		var next []*api.Node
		for _, x := range level {
			size++
			most = max(most, x.N)
			next = append(next, x.Kids...)
		}
		level = next
	}
	return size, most
}

// alike holds two trees against each other, field by field.
func alike(a, b *api.Node) bool {
	if a == nil || b == nil {
		return a == b
	}
	return a.Kind == b.Kind && a.N == b.N && a.Name == b.Name && a.Mark == b.Mark && slices.EqualFunc(a.Kids, b.Kids, alike)
}

// node, tree, leaf, v, and so on make nodes of what is at hand.
func node(kind, n int, name, mark string, kids ...*api.Node) *api.Node {
	return &api.Node{Kind: kind, N: n, Name: name, Mark: mark, Kids: kids}
}

func tree(kind int, kids ...*api.Node) *api.Node { return &api.Node{Kind: kind, Kids: kids} }
func leaf(kind int) *api.Node                    { return &api.Node{Kind: kind} }
func v(n int) *api.Node                          { return &api.Node{Kind: api.CVar, N: n} }
func star() *api.Node                            { return leaf(api.KStar) }
func num() *api.Node                             { return leaf(api.CInt) }

func all(n *api.Node) *api.Node { return tree(api.CAll, star(), n) }
func ex(n *api.Node) *api.Node  { return tree(api.CEx, star(), n) }
func fn(n *api.Node) *api.Node  { return tree(api.CLam, star(), n) }

func arrow(a, b *api.Node) *api.Node { return tree(api.CArrow, a, b) }

// app hands over what comes behind, one by one.
func app(a *api.Node, l ...*api.Node) *api.Node {
	for _, b := range l {
		a = tree(api.CApp, a, b)
	}
	return a
}

func field(label string, n *api.Node) *api.Node { return node(api.CField, 0, label, "", n) }
func kase(label string, n *api.Node) *api.Node  { return node(api.CCase, 0, label, "", n) }
func rec(fields ...*api.Node) *api.Node         { return tree(api.CRec, fields...) }
func sum(cases ...*api.Node) *api.Node          { return tree(api.CSum, cases...) }

// row is a record of so many fields, all with one constructor.
func row(many int, n *api.Node) *api.Node {
	r := rec()
	for i := range many {
		r.Kids = append(r.Kids, field(strconv.Itoa(100000+i), n))
	}
	return r
}

// padded is a constructor of so many nodes that has another one in it, as its last part.
func padded(want int, n *api.Node) *api.Node {
	size, _ := measures(n)
	if want == size {
		return n
	}
	if want < size || (want-size)%2 != 0 {
		panic("no such constructor")
	}
	return arrow(row((want-size-2)/2, num()), n)
}

// freeze tells a question: whether a tree is what it was now, node by node, with what stands behind its lists.
func freeze(n *api.Node) func() bool {
	nodes := map[*api.Node]api.Node{}
	lists := map[*api.Node][]*api.Node{}
	var walk func(n *api.Node)
	walk = func(n *api.Node) {
		if _, met := nodes[n]; n == nil || met {
			return
		}
		nodes[n] = *n
		lists[n] = slices.Clone(n.Kids[:cap(n.Kids)])
		for _, kid := range lists[n] {
			walk(kid)
		}
	}
	walk(n)
	return func() bool {
		for x, was := range nodes {
			if x.Kind != was.Kind || x.N != was.N || x.Name != was.Name || x.Mark != was.Mark || len(x.Kids) != len(was.Kids) || !slices.Equal(x.Kids[:cap(x.Kids)], lists[x]) {
				return false
			}
		}
		return true
	}
}

// guarded tells a tree that is the same, in which each list of kids has something behind its length.
func guarded(n *api.Node) *api.Node {
	if n == nil {
		return nil
	}
	x := *n
	x.Kids = nil
	for _, kid := range n.Kids {
		x.Kids = append(x.Kids, guarded(kid))
	}
	x.Kids = append(x.Kids, app(fn(v(0)), v(1)), nil, leaf(99))[:len(n.Kids)]
	return &x
}

// knot is a tree that lies in itself, so many CApps below its root.
func knot(n int) *api.Node {
	last := app(fn(v(0)), num())
	top := last
	for range n {
		top = app(v(0), top)
	}
	last.Kids[1] = top
	return top
}

// refused tells trees that are no constructors, and what is answered of them.
func refused() map[*api.Node]api.Errno {
	short := app(fn(v(0)), num())
	short.Kids = short.Kids[:1]
	return map[*api.Node]api.Errno{
		nil: api.ErrNil, app(nil, num()): api.ErrNil, app(fn(v(0)), nil): api.ErrNil, tree(api.CLam, nil, v(0)): api.ErrNil, rec(nil): api.ErrNil, app(fn(nil), num()): api.ErrNil,
		arrow(app(fn(v(0)), num()), nil): api.ErrNil, arrow(nil, app(fn(v(0)), num())): api.ErrNil, arrow(padded(65535, num()), nil): api.ErrNil,
		star(): api.ErrForm, tree(api.KArrow, star(), star()): api.ErrForm, short: api.ErrForm, app(fn(v(0)), star()): api.ErrForm, tree(api.CApp): api.ErrForm, tree(api.CApp, fn(v(0))): api.ErrForm,
		tree(api.CApp, fn(v(0)), num(), num()): api.ErrForm, app(tree(api.CLam), num()): api.ErrForm, app(tree(api.CLam, v(0)), num()): api.ErrForm, app(tree(api.CLam, num(), v(0)), num()): api.ErrForm,
		leaf(0): api.ErrForm, leaf(api.TInt): api.ErrForm, tree(api.XApp, tree(api.XLam, num(), leaf(api.XVar)), leaf(api.XInt)): api.ErrForm, field("a", num()): api.ErrForm, kase("A", num()): api.ErrForm, sum(): api.ErrForm,
		v(-1): api.ErrForm, v(65537): api.ErrForm, rec(field("a", num()), field("a", num())): api.ErrForm, app(fn(v(-1)), num()): api.ErrForm, app(fn(v(0)), v(65537)): api.ErrForm, node(api.CApp, 1, "", "", fn(v(0)), num()): api.ErrForm,
		arrow(app(fn(v(0)), num()), star()): api.ErrForm, arrow(app(fn(v(0)), num()), leaf(77)): api.ErrForm,
		tree(api.CRec, padded(65535, num())): api.ErrForm, padded(65537, num()): api.ErrLong, app(fn(v(0)), padded(65533, num())): api.ErrLong, row(32768, num()): api.ErrLong, app(fn(num()), padded(65535, num())): api.ErrLong, padded(65537, star()): api.ErrLong,
	}
}
