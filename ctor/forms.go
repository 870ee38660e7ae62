package ctor

import (
	"slices"

	"marquetry/api"
	"marquetry/arena"
)

// form asks of a node whether it and what lies below it are as one asks at its place.
type form func(n *api.Node) bool

// asked tells what keeps a tree from having a form. Forms may count on it that the tree is whole and not too large: what is not is refused ahead of them.
func asked(n *api.Node, is form) api.Errno {
	switch {
	case arena.Size(n) > api.MaxTerm:
		_, e := arena.Pack(n) // it packs none of so many nodes, but tells first if there is a nil among them
		return e
	case !whole(n):
		return api.ErrNil
	case !is(n):
		return api.ErrForm
	}
	return api.OK
}

// whole tells whether no nil is in a tree.
func whole(n *api.Node) bool {
	if n == nil {
		return false
	}
	for _, kid := range n.Kids {
		if !whole(kid) {
			return false
		}
	}
	return true
}

func isKind(n *api.Node) bool {
	switch n.Kind {
	case api.KStar:
		return plain(n) && kids(n)
	case api.KArrow:
		return plain(n) && kids(n, isKind, isKind)
	}
	return false
}

func isCon(n *api.Node) bool {
	switch n.Kind {
	case api.CVar:
		return 0 <= n.N && n.N <= api.MaxTerm && n.Name == "" && n.Mark == "" && kids(n)
	case api.CInt:
		fallthrough
	case api.CBool:
		fallthrough
	case api.CUnit:
		return plain(n) && kids(n)
	case api.CArrow:
		fallthrough
	case api.CApp:
		return plain(n) && kids(n, isCon, isCon)
	case api.CAll:
		fallthrough
	case api.CEx:
		fallthrough
	case api.CLam:
		return plain(n) && kids(n, isKind, isCon)
	case api.CRec:
		return plain(n) && parts(n, api.CField) && rise(n.Kids)
	case api.CSum:
		return plain(n) && len(n.Kids) > 0 && parts(n, api.CCase) && differ(n.Kids)
	}
	return false
}

// plain tells whether a node names no number, and no text.
func plain(n *api.Node) bool { return n.N == 0 && n.Name == "" && n.Mark == "" }

// kids tells whether a node has as many kids as there are forms, and each kid its own.
func kids(n *api.Node, forms ...form) bool {
	if len(n.Kids) != len(forms) {
		return false
	}
	for i, is := range forms {
		if !is(n.Kids[i]) {
			return false
		}
	}
	return true
}

// parts tells whether all kids of a node are of a kind, and each is a label and a constructor.
func parts(n *api.Node, kind int) bool {
	return !slices.ContainsFunc(n.Kids, func(part *api.Node) bool {
		return part.Kind != kind || part.N != 0 || part.Mark != "" || !isLabel(part.Name) || !kids(part, isCon)
	})
}

func isLabel(s string) bool { return 0 < len(s) && len(s) <= api.MaxLabel }

// rise tells whether each name comes behind the one ahead of it.
func rise(l []*api.Node) bool {
	for i := 1; i < len(l); i++ {
		if l[i-1].Name >= l[i].Name {
			return false
		}
	}
	return true
}

// differ tells whether no name stands twice.
func differ(l []*api.Node) bool {
	ahead := map[string]struct{}{}
	for _, n := range l {
		ahead[n.Name] = struct{}{}
	}
	return len(ahead) == len(l)
}
