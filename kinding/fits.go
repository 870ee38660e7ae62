package kinding

import "marquetry/api"

// strays tells the binders of a constructor whose variable stands where a sum's own may not: a sum fits if it is none of them. All are looked for at once, since sums may lie in one another.
func strays(n *api.Node) map[*api.Node]struct{} {
	found := map[*api.Node]struct{}{}
	var around []*api.Node // the binders, the innermost last
	var walk func(n *api.Node, may bool)
	walk = func(n *api.Node, may bool) { // may: the variable of the innermost binder may stand here
		outside := len(around)
		switch n.Kind {
		case api.CVar:
			if i := outside - 1 - n.N; i >= 0 && !(may && n.N == 0) {
				found[around[i]] = struct{}{}
			}
		case api.CSum, api.CAll, api.CEx, api.CLam: // all are treated as sums, since nobody asks of the others
			around, may = append(around, n), true
		case api.CArrow, api.CApp:
			may = false
		}
		for _, kid := range n.Kids {
			walk(kid, may)
		}
		around = around[:outside]
	}
	walk(n, false)
	return found
}
