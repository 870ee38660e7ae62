package ctor

import (
	"slices"

	"marquetry/api"
)

// change tells what becomes of a free variable, and is told how many binders lie around it.
type change func(v *api.Node, around int) *api.Node

// mapped tells a constructor in which each free variable is what a change makes of it. What stays as it was is shared: so those who only look at the variables make nothing.
func mapped(n *api.Node, around int, to change) *api.Node {
	switch n.Kind {
	case api.CVar:
		if n.N < around {
			return n
		}
		return to(n, around)
	case api.CAll, api.CEx, api.CLam, api.CSum:
		around++ // over the kind too, but no variable stands in it
	}
	m := n
	for i, kid := range n.Kids {
		now := mapped(kid, around, to)
		if now == kid {
			continue
		}
		if m == n {
			m = twin(n)
		}
		m.Kids[i] = now
	}
	return m
}

// twin tells a node like another one, with a list of kids of its own.
func twin(n *api.Node) *api.Node {
	m := *n
	m.Kids = slices.Clone(n.Kids)
	return &m
}

// shifted tells a constructor whose free variables from one on are by more, and whether all of them come to be such as may be. A variable is held against the least one by what it means outside, against the greatest one by its own number.
func shifted(n *api.Node, by, from int) (m *api.Node, fits bool) {
	fits = true
	m = mapped(n, 0, func(v *api.Node, around int) *api.Node {
		i := v.N - around
		switch {
		case i < from:
			return v
		case by < -i || by > api.MaxTerm-v.N: // their sums might be none of Go's ints
			fits = false
			return v
		}
		return variable(v.N + by)
	})
	return m, fits
}

// replaced tells a constructor that has another one in the place of a free variable, and whether no variable comes to be too great.
func replaced(n *api.Node, i int, by *api.Node) (m *api.Node, fits bool) {
	fits = true
	m = mapped(n, 0, func(v *api.Node, around int) *api.Node {
		switch {
		case v.N-around < i:
			return v
		case v.N-around > i:
			return variable(v.N - 1)
		}
		here, fit := shifted(by, around, 0)
		fits = fits && fit
		return here
	})
	return m, fits
}

func variable(n int) *api.Node { return &api.Node{Kind: api.CVar, N: n} }

// reach tells the least number that is above all free variables.
func reach(n *api.Node) int {
	above := 0
	mapped(n, 0, func(v *api.Node, around int) *api.Node {
		above = max(above, v.N-around+1)
		return v
	})
	return above
}

// places tells how often a variable stands free in a constructor.
func places(n *api.Node, i int) int {
	count := 0
	mapped(n, 0, func(v *api.Node, around int) *api.Node {
		if v.N-around == i {
			count++
		}
		return v
	})
	return count
}
