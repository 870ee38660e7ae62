package ctor

import (
	"strconv"

	"marquetry/api"
)

// writer keeps the tokens that are written. They are put together at last alone: a tree may be deep, and each of its nodes would copy what lies below it.
type writer struct{ tokens []string }

func (w *writer) put(tokens ...string) { w.tokens = append(w.tokens, tokens...) }

// row writes nodes, with tokens between each two.
func (w *writer) row(l []*api.Node, between ...string) {
	for i, n := range l {
		if i > 0 {
			w.put(between...)
		}
		w.write(n)
	}
}

// binder writes what a word binds a constructor in.
func (w *writer) binder(word string, n *api.Node) {
	w.put("(", word)
	w.row(n.Kids, ".")
	w.put(")")
}

func (w *writer) write(n *api.Node) {
	switch n.Kind {
	case api.KStar:
		w.put("*")
	case api.CVar:
		w.put("$" + strconv.Itoa(n.N))
	case api.CInt:
		w.put("int")
	case api.CBool:
		w.put("bool")
	case api.CUnit:
		w.put("unit")
	case api.KArrow, api.CArrow:
		w.put("(")
		w.row(n.Kids, "->")
		w.put(")")
	case api.CApp:
		w.put("(")
		w.row(n.Kids)
		w.put(")")
	case api.CRec:
		w.put("{")
		w.row(n.Kids, ",")
		w.put("}")
	case api.CField:
		w.put(n.Name, "=")
		w.row(n.Kids)
	case api.CAll:
		w.binder("all", n)
	case api.CEx:
		w.binder("ex", n)
	case api.CLam:
		w.binder("fn", n)
	case api.CSum:
		w.put("mu", "{")
		w.row(n.Kids, "|")
		w.put("}")
	case api.CCase:
		w.put(n.Name, "of")
		w.row(n.Kids)
	}
}
