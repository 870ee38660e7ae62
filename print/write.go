package print

import (
	"strings"

	"marquetry/api"
	"marquetry/pexpr"
	"marquetry/ptype"
)

// row puts texts one behind the other, with a blank between each two. An empty one leaves no trace: between sig and end there may be nothing.
func row(texts ...string) string {
	var s strings.Builder
	for _, x := range texts {
		if x != "" && s.Len() > 0 {
			s.WriteByte(' ')
		}
		s.WriteString(x)
	}
	return s.String()
}

// each tells the texts of nodes.
func each(l []*api.Node, text func(n *api.Node) string) []string {
	var texts []string
	for _, n := range l {
		texts = append(texts, text(n))
	}
	return texts
}

func prog(n *api.Node) string {
	line := func(n *api.Node) string { return decl(n) + "\n" }
	return strings.Join(each(n.Kids, line), "")
}

func decl(n *api.Node) string {
	switch n.Kind {
	case api.DVal:
		return value(n)
	case api.DType:
		return row("type", n.Name, "=", typed(n.Kids[0]))
	case api.DData:
		return row("datatype", n.Name, "=", cons(n.Kids))
	case api.DStruct:
		return row("structure", n.Name, "=", mod(n.Kids[0]))
	case api.DSig:
		return row("signature", n.Name, "=", sig(n.Kids[0]))
	case api.DFunctor:
		return row("functor", n.Name, "(", n.Mark, ":", sig(n.Kids[0]), ")", "=", mod(n.Kids[1]))
	case api.DOpen:
		return row("open", n.Name)
	case api.DInclude:
		return row("include", n.Name)
	}
	return ""
}

func value(n *api.Node) string {
	if len(n.Kids) == 1 {
		return row("val", n.Name, "=", expr(n.Kids[0]))
	}
	return row("val", n.Name, ":", typed(n.Kids[0]), "=", expr(n.Kids[1]))
}

func mod(n *api.Node) string {
	switch n.Kind {
	case api.MStruct:
		return row("struct", row(each(n.Kids, decl)...), "end")
	case api.MPath:
		return n.Name
	case api.MApp:
		return row(n.Name, "(", mod(n.Kids[0]), ")")
	case api.MSeal:
		return row(mod(n.Kids[0]), seal(n.N), sig(n.Kids[1]))
	}
	return ""
}

// seal tells the sign of an opaque seal, or of a transparent one.
func seal(number int) string {
	if number == 1 {
		return ":>"
	}
	return ":"
}

func sig(n *api.Node) string {
	switch n.Kind {
	case api.SBody:
		return row("sig", row(each(n.Kids, spec)...), "end")
	case api.SName:
		return n.Name
	case api.SWhere:
		return row(sig(n.Kids[0]), "where", "type", n.Name, "=", typed(n.Kids[1]))
	}
	return ""
}

func spec(n *api.Node) string {
	switch n.Kind {
	case api.PVal:
		return row("val", n.Name, ":", typed(n.Kids[0]))
	case api.PType:
		if len(n.Kids) == 0 {
			return row("type", n.Name)
		}
		return row("type", n.Name, "=", typed(n.Kids[0]))
	case api.PData:
		return row("datatype", n.Name, "=", cons(n.Kids))
	case api.PStruct:
		return row("structure", n.Name, ":", sig(n.Kids[0]))
	case api.PInclude:
		return row("include", sig(n.Kids[0]))
	case api.PShare:
		return row("sharing", "type", n.Name, "=", n.Mark)
	}
	return ""
}

func cons(l []*api.Node) string {
	con := func(n *api.Node) string { return row(n.Name, "of", typed(n.Kids[0])) }
	return strings.Join(each(l, con), " | ")
}

// typed writes a type: it lies in a tree that has a form, so that it is one, and is written.
func typed(n *api.Node) string {
	s, _ := ptype.Write(n)
	return s
}

// expr writes an expression, as typed does a type.
func expr(n *api.Node) string {
	s, _ := pexpr.Write(n)
	return s
}
