package kinding_test

import (
	"math/rand/v2"
	"slices"
	"strconv"

	"marquetry/api"
	"marquetry/ctor"
)

// node, tree, leaf, v, and so on make nodes of what is at hand.
func node(kind, n int, name, mark string, kids ...*api.Node) *api.Node {
	return &api.Node{Kind: kind, N: n, Name: name, Mark: mark, Kids: kids}
}

func tree(kind int, kids ...*api.Node) *api.Node { return &api.Node{Kind: kind, Kids: kids} }
func leaf(kind int) *api.Node                    { return &api.Node{Kind: kind} }
func v(n int) *api.Node                          { return &api.Node{Kind: api.CVar, N: n} }
func star() *api.Node                            { return leaf(api.KStar) }
func num() *api.Node                             { return leaf(api.CInt) }

func all(n *api.Node) *api.Node { return tree(api.CAll, star(), n) }
func ex(n *api.Node) *api.Node  { return tree(api.CEx, star(), n) }
func fn(n *api.Node) *api.Node  { return tree(api.CLam, star(), n) }

func arrow(a, b *api.Node) *api.Node { return tree(api.CArrow, a, b) }

// app hands over what comes behind, one by one.
func app(a *api.Node, l ...*api.Node) *api.Node {
	for _, b := range l {
		a = tree(api.CApp, a, b)
	}
	return a
}

func field(label string, n *api.Node) *api.Node { return node(api.CField, 0, label, "", n) }
func kase(label string, n *api.Node) *api.Node  { return node(api.CCase, 0, label, "", n) }
func rec(fields ...*api.Node) *api.Node         { return tree(api.CRec, fields...) }
func sum(cases ...*api.Node) *api.Node          { return tree(api.CSum, cases...) }

// outside is a constructor that stands below so many binders more, and means the same.
func outside(n *api.Node, by int) *api.Node {
	m, e := ctor.Shift(n, by, 0)
	if e != api.OK {
		panic("no such variable")
	}
	return m
}

// kfn is the kind of functions from kinds to a kind, the last one.
func kfn(l ...*api.Node) *api.Node {
	k := l[len(l)-1]
	for _, from := range slices.Backward(l[:len(l)-1]) {
		k = tree(api.KArrow, from, k)
	}
	return k
}

// one is the kind of functions of types.
func one() *api.Node { return kfn(star(), star()) }

// kinds tells some kinds, all unlike.
func kinds() []*api.Node {
	return []*api.Node{star(), one(), kfn(star(), star(), star()), kfn(one(), star()), kfn(one(), one()), kfn(kfn(one(), star()), star(), one())}
}

// contexts tells contexts of none, one and many kinds.
func contexts() [][]*api.Node {
	l := [][]*api.Node{nil, {}, kinds(), {one(), star(), star()}, {kfn(one(), star()), one(), star(), star(), one()}}
	for _, k := range kinds() {
		l = append(l, []*api.Node{k})
	}
	return l
}

// below tells each kind of constructor that has another one in it, once for each place.
func below(n *api.Node) []*api.Node {
	l := []*api.Node{
		arrow(n, v(0)), arrow(v(0), n), app(n, v(1)), app(v(1), n), rec(field("a", n)), rec(field("a", v(0)), field("b", n), field("c", v(2))), sum(kase("A", n)), sum(kase("B", v(0)), kase("A", n), kase("C", num())), sum(kase("B", rec(field("1", n), field("2", v(0))))),
	}
	for _, k := range kinds()[:4] {
		l = append(l, tree(api.CAll, k, n), tree(api.CEx, k, n), tree(api.CLam, k, n))
	}
	return l
}

// small tells constructors of each kind, in any order and with many errors.
func small() []*api.Node {
	l := []*api.Node{v(0), v(1), v(2), v(5), v(6), v(65536), num(), leaf(api.CBool), leaf(api.CUnit), rec()}
	for i := range 7 {
		l = append(l, below(l[i])...)
	}
	few := slices.Concat(l[:3], []*api.Node{num(), fn(v(0)), fn(num()), sum(kase("A", v(1))), sum(kase("A", arrow(v(0), v(0)))), tree(api.CLam, one(), app(v(0), num()))})
	for _, x := range few {
		for _, y := range few {
			l = append(l, arrow(x, y), app(x, y), rec(field("a", x), field("b", y)), sum(kase("B", x), kase("A", y)), fn(app(x, y)), sum(kase("A", rec(field("a", rec(field("1", x))), field("b", y)))))
		}
	}
	for i := 0; i < len(l) && len(l) < 6000; i += 2 {
		l = append(l, below(l[i])...)
	}
	return l
}

// maker makes constructors of a kind that is asked.
type maker struct{ *rand.Rand }

// ground is int, bool or unit.
func (r maker) ground() *api.Node { return leaf([]int{api.CInt, api.CBool, api.CUnit}[r.IntN(3)]) }

// make tells a constructor of a kind, of about so many nodes. A nil in the context is the variable of a sum, where it may not stand; may tells that the variable 0 is one that may.
func (r maker) make(k *api.Node, ctx []*api.Node, size int, may bool) *api.Node {
	var fit []*api.Node
	for i, x := range ctx {
		if x != nil && text(x) == text(k) || x == nil && i == 0 && may && text(k) == "*" {
			fit = append(fit, v(i))
		}
	}
	if len(fit) > 0 && (size < 3 || r.IntN(5) == 0) {
		return fit[r.IntN(len(fit))]
	}
	if size > 6 && r.IntN(4) == 0 {
		from := kinds()[r.IntN(5)]
		return app(r.make(kfn(from, k), ctx, size/2, false), r.make(from, ctx, size/2, false))
	}
	if k.Kind == api.KArrow {
		return tree(api.CLam, k.Kids[0], r.make(k.Kids[1], slices.Insert(slices.Clone(ctx), 0, k.Kids[0]), size-2, false))
	}
	return r.star(ctx, size, may)
}

// star tells a type.
func (r maker) star(ctx []*api.Node, size int, may bool) *api.Node {
	if size < 3 {
		return r.ground()
	}
	part := 1 + r.IntN(size-1)
	switch r.IntN(6) {
	case 0, 1:
		k := kinds()[r.IntN(5)]
		return tree([]int{api.CAll, api.CEx}[r.IntN(2)], k, r.star(slices.Insert(slices.Clone(ctx), 0, k), size-2, false))
	case 2:
		return rec(field("a", r.make(star(), ctx, part, may)), field("b", r.make(star(), ctx, size-part, may)))
	case 3, 4:
		inner := slices.Insert(slices.Clone(ctx), 0, nil)
		return sum(kase("B", r.make(star(), inner, part, true)), kase("A", r.make(star(), inner, size-part, true)))
	}
	return arrow(r.make(star(), ctx, part, false), r.make(star(), ctx, size-part, false))
}

// broken tells a constructor in which another one stands at some place, or a binder binds another kind.
func (r maker) broken(n *api.Node) *api.Node {
	var changed []*api.Node
	for _, s := range layout(n) {
		switch s.n.Kind {
		case api.CField, api.CCase:
			continue
		case api.KStar, api.KArrow:
			changed = append(changed, replaced(s, kinds()[r.IntN(6)]))
			continue
		}
		for _, m := range []*api.Node{v(0), v(r.IntN(6)), r.ground(), fn(s.n), sum(kase("A", s.n)), app(s.n, num()), app(num(), s.n)} {
			changed = append(changed, replaced(s, m))
		}
	}
	return changed[r.IntN(len(changed))]
}

// replaced tells the whole tree that a spot lies in, with another one in its place.
func replaced(s *spot, m *api.Node) *api.Node {
	for s.above != nil {
		x := *s.above.n
		x.Kids = slices.Clone(x.Kids)
		x.Kids[s.kid] = m
		s, m = s.above, &x
	}
	return m
}

// made tells many constructors of kinds that are known, ever the same ones.
func made(many, size int, each func(r maker, ctx []*api.Node, k, n *api.Node)) {
	r := maker{rand.New(rand.NewPCG(1, 2))}
	for i := range many {
		ctx := contexts()[i%len(contexts())]
		k := kinds()[r.IntN(5)]
		each(r, ctx, k, r.make(k, ctx, 3+i%size, false))
	}
}

// row is a record of so many fields, all with one constructor.
func row(many int, n *api.Node) *api.Node {
	r := rec()
	for i := range many {
		r.Kids = append(r.Kids, field(strconv.Itoa(100000+i), n))
	}
	return r
}

// padded is a constructor of so many nodes that has another one in it, as its last part.
func padded(want int, n *api.Node) *api.Node {
	size := sizeOf(n)
	if want == size {
		return n
	}
	if want < size || (want-size)%2 != 0 {
		panic("no such constructor")
	}
	return arrow(row((want-size-2)/2, num()), n)
}

// long is a kind of so many nodes, an odd number, that takes so many types.
func long(want int) *api.Node {
	k := star()
	for range (want - 1) / 2 {
		k = kfn(star(), k)
	}
	return k
}

// freeze tells a question: whether trees are what they were now, node by node, with what stands behind their lists.
func freeze(l ...*api.Node) func() bool {
	nodes := map[*api.Node]api.Node{}
	lists := map[*api.Node][]*api.Node{}
	var walk func(n *api.Node)
	walk = func(n *api.Node) {
		if _, met := nodes[n]; n == nil || met {
			return
		}
		nodes[n] = *n
		lists[n] = slices.Clone(n.Kids[:cap(n.Kids)])
		for _, kid := range lists[n] {
			walk(kid)
		}
	}
	for _, n := range l {
		walk(n)
	}
	return func() bool {
		for x, was := range nodes {
			if x.Kind != was.Kind || x.N != was.N || x.Name != was.Name || x.Mark != was.Mark || len(x.Kids) != len(was.Kids) || !slices.Equal(x.Kids[:cap(x.Kids)], lists[x]) {
				return false
			}
		}
		return true
	}
}

// guarded tells a tree that is the same, in which each list of kids has something behind its length.
func guarded(n *api.Node) *api.Node {
	if n == nil {
		return nil
	}
	x := *n
	x.Kids = nil
	for _, kid := range n.Kids {
		x.Kids = append(x.Kids, guarded(kid))
	}
	x.Kids = append(x.Kids, app(v(0), v(1)), nil, leaf(99))[:len(n.Kids)]
	return &x
}

// guardedList is a context that is the same, with something behind its length, and behind those of its kinds.
func guardedList(ctx []*api.Node) []*api.Node {
	var l []*api.Node
	for _, k := range ctx {
		l = append(l, guarded(k))
	}
	return append(l, star(), one(), nil, num())[:len(ctx)]
}

// knot is a constructor, knotKind a kind that lies in itself, so many nodes below its root.
func knot(n int) *api.Node     { return knotted(n, api.CArrow, num()) }
func knotKind(n int) *api.Node { return knotted(n, api.KArrow, star()) }

func knotted(n, kind int, x *api.Node) *api.Node {
	last := tree(kind, x, x)
	top := last
	for range n {
		top = tree(kind, x, top)
	}
	last.Kids[1] = top
	return top
}

// shared is a tree of few nodes: each below the root stands at two places of the one above.
func shared(deep, kind int, x *api.Node) *api.Node {
	for range deep {
		x = tree(kind, x, x)
	}
	return x
}
