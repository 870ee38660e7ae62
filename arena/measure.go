package arena

import (
	"math"
	"slices"

	"marquetry/api"
)

// few is how many nodes are visited before those that are met are kept in mind: smaller trees are gone over faster without. Behind it none is gone into twice, so that the time hangs on how many nodes there are, not on how many places they stand at.
const few = api.MaxTerm

// Size tells how many nodes a tree has.
func Size(n *api.Node) int { return measured(n).size }

// Deep tells how many nodes of a tree lie above one another.
func Deep(n *api.Node) int { return measured(n).deep }

// Same tells whether two trees are alike.
func Same(a, b *api.Node) bool {
	var x comparison
	return x.alike(a, b)
}

// measure is what is counted of a tree, and whether a nil is in it.
type measure struct {
	size, deep int
	gap        bool
}

// gauge measures trees.
type gauge struct {
	visits int
	known  map[*api.Node]measure
}

func measured(n *api.Node) measure {
	g := gauge{known: map[*api.Node]measure{}}
	return g.of(n)
}

// of tells the measure of what lies at a node.
func (g *gauge) of(n *api.Node) measure {
	if n == nil {
		return measure{gap: true}
	}
	if x, ok := g.known[n]; ok {
		return x
	}
	g.visits++
	g.keep(n, measure{size: math.MaxInt, deep: math.MaxInt}) // this holds if it is met again in itself
	x := measure{size: 1}
	for _, kid := range n.Kids {
		y := g.of(kid)
		x.size = sum(x.size, y.size)
		x.deep = max(x.deep, y.deep)
		x.gap = x.gap || y.gap
	}
	x.deep = sum(x.deep, 1)
	g.keep(n, x)
	return x
}

func (g *gauge) keep(n *api.Node, x measure) {
	if g.visits > few {
		g.known[n] = x
	}
}

// sum adds numbers from 0 on; what is too great for an int stays the greatest one, lest it pass for a small one.
func sum(a, b int) int {
	if a > math.MaxInt-b {
		return math.MaxInt
	}
	return a + b
}

// pair is two nodes that are held against each other.
type pair struct{ a, b *api.Node }

// comparison holds trees against each other.
type comparison struct {
	visits int
	met    map[pair]struct{}
}

func (x *comparison) alike(a, b *api.Node) bool {
	if a == b {
		return true
	}
	if a == nil || b == nil || a.Kind != b.Kind || a.N != b.N || a.Name != b.Name || a.Mark != b.Mark {
		return false
	}
	return x.again(pair{a, b}) || slices.EqualFunc(a.Kids, b.Kids, x.alike)
}

// again tells whether a pair was met before: had it not been alike, nothing would be asked any more.
func (x *comparison) again(p pair) bool {
	x.visits++
	if x.visits <= few {
		return false
	}
	if x.met == nil {
		x.met = map[pair]struct{}{}
	}
	_, met := x.met[p]
	x.met[p] = struct{}{}
	return met
}
