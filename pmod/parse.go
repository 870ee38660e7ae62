package pmod

import (
	"marquetry/api"
	"marquetry/parser"
	"marquetry/pexpr"
	"marquetry/ptype"
)

// rules are those of the grammar: each goes on from where the parser stands.
type rules struct{ *parser.Parser }

func named(kind int, name string, kids ...*api.Node) *api.Node {
	return &api.Node{Kind: kind, Name: name, Kids: kids}
}

// mod parses a module. Its seals are gone past by a loop, which asks for no more memory of the stack, however many they are.
func (r rules) mod() *api.Node {
	n := r.prim()
	for {
		switch {
		case r.Takes(":"):
			n = sealed(0, n, r.sig())
		case r.Takes(":>"):
			n = sealed(1, n, r.sig())
		default:
			return n
		}
	}
}

// sealed tells a module that is held against a signature: opaquely, if the number is 1.
func sealed(number int, mod, sig *api.Node) *api.Node {
	return &api.Node{Kind: api.MSeal, N: number, Kids: []*api.Node{mod, sig}}
}

func (r rules) prim() *api.Node {
	switch {
	case r.Sees("struct"):
		n := &api.Node{Kind: api.MStruct}
		r.Between("struct", "end", func() { n.Kids = r.decls(false) })
		return n
	case r.Sees("("):
		return r.inSigns()
	}
	if name, is := parser.Pick(r.Parser, applied); is {
		return named(api.MApp, name, r.inSigns())
	}
	return named(api.MPath, r.Named(ptype.Long))
}

// applied tells whether a name is there that is applied to what stands behind it, and the name.
func applied(l []api.Token, i int) (string, bool) {
	name, is := ptype.Name(l, i)
	if !is || !ptype.Key(l, i+1, "(") {
		return "", false
	}
	return name, true
}

// inSigns parses the module that stands between ( and ).
func (r rules) inSigns() (n *api.Node) {
	r.Between("(", ")", func() { n = r.mod() })
	return n
}

// sig parses a signature. What stands behind each where is gone past by a loop, as a module's seals are.
func (r rules) sig() *api.Node {
	n := r.body()
	for r.Takes("where") {
		r.Needs("type")
		name := r.Named(ptype.Long)
		n = named(api.SWhere, name, n, r.behind("=", r.ofType))
	}
	return n
}

func (r rules) body() *api.Node {
	if r.Sees("sig") {
		n := &api.Node{Kind: api.SBody}
		r.Between("sig", "end", func() { n.Kids = many(r.spec) })
		return n
	}
	return named(api.SName, r.Named(ptype.Name))
}

// many parses parts till none begins: then the part tells nil.
func many(part func() *api.Node) []*api.Node {
	var l []*api.Node
	for n := part(); n != nil; n = part() {
		l = append(l, n)
	}
	return l
}

// spec parses a specification, if one begins here.
func (r rules) spec() *api.Node {
	switch {
	case r.Takes("val"):
		return r.binder(api.PVal, ":", r.ofType)
	case r.Takes("type"):
		return r.typeSpec()
	case r.Takes("datatype"):
		return r.datatype(api.PData)
	case r.Takes("structure"):
		return r.binder(api.PStruct, ":", r.sig)
	case r.Takes("include"):
		return &api.Node{Kind: api.PInclude, Kids: []*api.Node{r.sig()}}
	case r.Takes("sharing"):
		r.Needs("type")
		n := named(api.PShare, r.Named(ptype.Long))
		r.Needs("=")
		n.Mark = r.Named(ptype.Long)
		return n
	}
	return nil
}

// typeSpec parses what stands behind type in a signature: a name, and its type, if there is one.
func (r rules) typeSpec() *api.Node {
	n := named(api.PType, r.Named(ptype.Name))
	if r.Sees("=") {
		n.Kids = []*api.Node{r.behind("=", r.ofType)}
	}
	return n
}

func (r rules) decls(top bool) []*api.Node {
	return many(func() *api.Node { return r.decl(top) })
}

// decl parses a declaration, if one begins here.
func (r rules) decl(top bool) *api.Node {
	switch {
	case r.Takes("val"):
		return r.value()
	case r.Takes("type"):
		return r.binder(api.DType, "=", r.ofType)
	case r.Takes("datatype"):
		return r.datatype(api.DData)
	case r.Takes("structure"):
		return r.binder(api.DStruct, "=", r.mod)
	case r.Takes("open"):
		return named(api.DOpen, r.Named(ptype.Long))
	case r.Takes("include"):
		return named(api.DInclude, r.Named(ptype.Long))
	case top && r.Takes("signature"):
		return r.binder(api.DSig, "=", r.sig)
	case top && r.Takes("functor"):
		return r.functor()
	}
	return nil
}

// value parses what stands behind val in a structure: its type, if there is one, and its expression.
func (r rules) value() *api.Node {
	n := named(api.DVal, r.Named(ptype.Name))
	if r.Sees(":") {
		n.Kids = append(n.Kids, r.behind(":", r.ofType))
	}
	n.Kids = append(n.Kids, r.behind("=", r.expr))
	return n
}

func (r rules) functor() *api.Node {
	n := named(api.DFunctor, r.Named(ptype.Name))
	r.Between("(", ")", func() {
		n.Mark = r.Named(ptype.Name)
		n.Kids = append(n.Kids, r.behind(":", r.sig))
	})
	n.Kids = append(n.Kids, r.behind("=", r.mod))
	return n
}

// datatype parses what stands behind that word.
func (r rules) datatype(kind int) *api.Node {
	n := named(kind, r.Named(ptype.Name))
	r.Needs("=")
	n.Kids = parser.Part(r.Parser, ptype.Cons)
	return n
}

// binder parses a name, and the part behind a sign that is bound to it.
func (r rules) binder(kind int, sign string, part func() *api.Node) *api.Node {
	name := r.Named(ptype.Name)
	return named(kind, name, r.behind(sign, part))
}

// behind parses the part behind a sign.
func (r rules) behind(sign string, part func() *api.Node) *api.Node {
	r.Needs(sign)
	return part()
}

func (r rules) ofType() *api.Node { return parser.Part(r.Parser, ptype.Type) }

func (r rules) expr() *api.Node { return parser.Part(r.Parser, pexpr.Expr) }
