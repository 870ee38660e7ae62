package pexpr

import (
	"marquetry/api"
	"marquetry/lexer"
	"marquetry/ptype"
)

// writer puts texts one behind the other. What it is given has an expression's form.
type writer struct{ texts []string }

func (w *writer) put(texts ...string) { w.texts = append(w.texts, texts...) }

// write writes an expression where a rule is asked: in signs, if it binds looser than that.
func (w *writer) write(n *api.Node, rule int) {
	if ruleOf(n) < rule {
		w.put("(")
		w.write(n, asExpr)
		w.put(")")
		return
	}
	switch n.Kind {
	case api.EInt:
		w.put(lexer.Number(n.N))
	case api.EBool:
		w.writeBool(n.N)
	case api.EVar:
		w.put(n.Name)
	case api.EFst:
		w.writeBehind("#1", n.Kids[0], asAtom)
	case api.ESnd:
		w.writeBehind("#2", n.Kids[0], asAtom)
	case api.EUnit:
		w.put("(", ")")
	case api.EPair:
		w.writeBehind("(", n.Kids[0], asExpr)
		w.writeBehind(",", n.Kids[1], asExpr)
		w.put(")")
	case api.EApp:
		w.write(n.Kids[0], asApplication)
		w.write(n.Kids[1], asAtom)
	case api.EOp:
		w.writeOperation(n)
	default:
		w.writeLoosest(n)
	}
}

// writeLoosest writes an expression that begins with a word of its own.
func (w *writer) writeLoosest(n *api.Node) {
	switch n.Kind {
	case api.ELam:
		w.put("fn", "(", n.Name)
		w.writeTypeBehind(":", n.Kids[0])
		w.put(")")
		w.writeBehind("=>", n.Kids[1], asExpr)
	case api.ELet:
		w.put("let", n.Name)
		w.writeBehind("=", n.Kids[0], asExpr)
		w.writeBehind("in", n.Kids[1], asExpr)
		w.put("end")
	case api.EIf:
		w.writeBehind("if", n.Kids[0], asExpr)
		w.writeBehind("then", n.Kids[1], asExpr)
		w.writeBehind("else", n.Kids[2], asExpr)
	case api.ECase:
		w.writeBehind("case", n.Kids[0], asExpr)
		w.writeArms(n.Kids[1:])
	case api.EFold:
		w.writeBehind("fold", n.Kids[0], asExpr)
		w.writeTypeBehind("to", n.Kids[1])
		w.writeArms(n.Kids[2:])
	}
}

func (w *writer) writeBehind(text string, n *api.Node, rule int) {
	w.put(text)
	w.write(n, rule)
}

// writeTypeBehind writes a type: it lies in an expression, so that it is one, and is written.
func (w *writer) writeTypeBehind(text string, n *api.Node) {
	s, _ := ptype.Write(n)
	w.put(text, s)
}

func (w *writer) writeArms(arms []*api.Node) {
	sign := "of"
	for _, arm := range arms {
		w.put(sign, arm.Name, arm.Mark)
		w.writeBehind("=>", arm.Kids[0], asExpr)
		sign = "|"
	}
	w.put("end")
}

func (w *writer) writeOperation(n *api.Node) {
	for _, x := range operators {
		if x.kind == n.N {
			w.write(n.Kids[0], x.ofLeft)
			w.writeBehind(x.sign, n.Kids[1], x.ofRight)
		}
	}
}

func (w *writer) writeBool(n int) {
	if n == 1 {
		w.put("true")
	} else {
		w.put("false")
	}
}

// ruleOf tells the tightest rule that makes such an expression.
func ruleOf(n *api.Node) int {
	switch n.Kind {
	case api.ELam, api.ELet, api.EIf, api.ECase, api.EFold:
		return asExpr
	case api.EApp:
		return asApplication
	case api.EOp:
		for _, x := range operators {
			if x.kind == n.N {
				return x.rule
			}
		}
	}
	return asAtom
}
