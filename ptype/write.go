package ptype

import "marquetry/api"

// The rules of the grammar that a type may stand for, the loosest one first.
const (
	asType = iota
	asProduct
	asAtom
)

// writer puts texts one behind the other. What it is given has a type's form.
type writer struct{ texts []string }

func (w *writer) put(texts ...string) { w.texts = append(w.texts, texts...) }

// write writes a type where a rule is asked: in signs, if it binds looser than that.
func (w *writer) write(n *api.Node, rule int) {
	if ruleOf(n) < rule {
		w.put("(")
		w.write(n, asType)
		w.put(")")
		return
	}
	switch n.Kind {
	case api.TArrow:
		w.write(n.Kids[0], asProduct)
		w.put("->")
		w.write(n.Kids[1], asType)
	case api.TPair:
		w.write(n.Kids[0], asAtom)
		w.put("*")
		w.write(n.Kids[1], asProduct)
	case api.TMu:
		w.put("mu", n.Name, "{")
		w.writeCons(n.Kids)
		w.put("}")
	case api.TName:
		w.put(n.Name)
	default:
		w.writePlain(n.Kind)
	}
}

func (w *writer) writeCons(cons []*api.Node) {
	for i, con := range cons {
		if i > 0 {
			w.put("|")
		}
		w.put(con.Name, "of")
		w.write(con.Kids[0], asType)
	}
}

func (w *writer) writePlain(kind int) {
	for _, x := range plain {
		if x.kind == kind {
			w.put(x.text)
		}
	}
}

// ruleOf tells the tightest rule that makes such a type.
func ruleOf(n *api.Node) int {
	switch n.Kind {
	case api.TArrow:
		return asType
	case api.TPair:
		return asProduct
	}
	return asAtom
}
