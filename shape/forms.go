package shape

import (
	"slices"

	"marquetry/api"
	"marquetry/names"
)

// check asks of a node whether it and what lies below it have forms that are wanted at its place.
type check func(n *api.Node) bool

// kids tells whether a node has as many kids as there are checks, and each kid passes its own.
func kids(n *api.Node, checks ...check) bool {
	if len(n.Kids) != len(checks) {
		return false
	}
	for i, passes := range checks {
		if !passes(n.Kids[i]) {
			return false
		}
	}
	return true
}

// row tells whether a node's first kids pass the checks, each its own, and those behind them, so many at least, all pass another one.
func row(n *api.Node, least int, others check, first ...check) bool {
	behind := len(n.Kids) - len(first)
	return behind >= least && kids(n, slices.Concat(first, slices.Repeat([]check{others}, behind))...)
}

// number tells whether a node names no text, and a number from least to most.
func number(n *api.Node, least, most int) bool {
	return least <= n.N && n.N <= most && n.Name == "" && n.Mark == ""
}

// texts tells whether a node names no number, and texts that are as is asked.
func texts(n *api.Node, name, mark func(string) bool) bool {
	return n.N == 0 && name(n.Name) && mark(n.Mark)
}

func plain(n *api.Node) bool { return number(n, 0, 0) }
func named(n *api.Node) bool { return texts(n, names.Check, empty) }
func long(n *api.Node) bool  { return texts(n, names.Long, empty) }
func empty(s string) bool    { return s == "" }

func isType(n *api.Node) bool {
	switch n.Kind {
	case api.TInt, api.TBool, api.TUnit:
		return plain(n) && kids(n)
	case api.TName:
		return long(n) && kids(n)
	case api.TArrow, api.TPair:
		return plain(n) && kids(n, isType, isType)
	case api.TMu:
		return named(n) && cons(n)
	}
	return false
}

// cons tells whether a node's kids are constructors, one at least, and each bears a name that none ahead of it has.
func cons(n *api.Node) bool {
	ahead := map[string]struct{}{}
	return row(n, 1, func(con *api.Node) bool {
		_, twice := ahead[con.Name]
		ahead[con.Name] = struct{}{}
		return !twice && con.Kind == api.TCon && named(con) && kids(con, isType)
	})
}

func isExpr(n *api.Node) bool {
	switch n.Kind {
	case api.EInt:
		return number(n, -api.MaxInt, api.MaxInt) && kids(n)
	case api.EBool:
		return number(n, 0, 1) && kids(n)
	case api.EUnit:
		return plain(n) && kids(n)
	case api.EVar:
		return long(n) && kids(n)
	case api.ELam:
		return named(n) && kids(n, isType, isExpr)
	case api.EApp, api.EPair:
		return plain(n) && kids(n, isExpr, isExpr)
	case api.EFst, api.ESnd:
		return plain(n) && kids(n, isExpr)
	case api.ELet:
		return named(n) && kids(n, isExpr, isExpr)
	case api.EIf:
		return plain(n) && kids(n, isExpr, isExpr, isExpr)
	case api.EOp:
		return number(n, api.OpAdd, api.OpLess) && kids(n, isExpr, isExpr)
	case api.ECase:
		return plain(n) && row(n, 1, isArm, isExpr)
	case api.EFold:
		return plain(n) && row(n, 1, isArm, isExpr, isType)
	}
	return false
}

func isArm(n *api.Node) bool {
	return n.Kind == api.EArm && texts(n, names.Check, names.Check) && kids(n, isExpr)
}

func isMod(n *api.Node) bool {
	switch n.Kind {
	case api.MStruct:
		return plain(n) && row(n, 0, func(decl *api.Node) bool {
			return decl.Kind != api.DSig && decl.Kind != api.DFunctor && isDecl(decl)
		})
	case api.MPath:
		return long(n) && kids(n)
	case api.MApp:
		return named(n) && kids(n, isMod)
	case api.MSeal:
		return number(n, 0, 1) && kids(n, isMod, isSig)
	}
	return false
}

func isSig(n *api.Node) bool {
	switch n.Kind {
	case api.SBody:
		return plain(n) && row(n, 0, isSpec)
	case api.SName:
		return named(n) && kids(n)
	case api.SWhere:
		return long(n) && kids(n, isSig, isType)
	}
	return false
}

func isSpec(n *api.Node) bool {
	switch n.Kind {
	case api.PVal:
		return named(n) && kids(n, isType)
	case api.PType:
		return named(n) && (kids(n) || kids(n, isType))
	case api.PData:
		return named(n) && cons(n)
	case api.PStruct:
		return named(n) && kids(n, isSig)
	case api.PInclude:
		return plain(n) && kids(n, isSig)
	case api.PShare:
		return texts(n, names.Long, names.Long) && kids(n)
	}
	return false
}

func isDecl(n *api.Node) bool {
	switch n.Kind {
	case api.DVal:
		return named(n) && (kids(n, isExpr) || kids(n, isType, isExpr))
	case api.DType:
		return named(n) && kids(n, isType)
	case api.DData:
		return named(n) && cons(n)
	case api.DStruct:
		return named(n) && kids(n, isMod)
	case api.DSig:
		return named(n) && kids(n, isSig)
	case api.DFunctor:
		return texts(n, names.Check, names.Check) && kids(n, isSig, isMod)
	case api.DOpen, api.DInclude:
		return long(n) && kids(n)
	}
	return false
}

func isProg(n *api.Node) bool {
	return n.Kind == api.Prog && plain(n) && row(n, 0, isDecl)
}
