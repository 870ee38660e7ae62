package ptype

import (
	"marquetry/api"
	"marquetry/parser"
)

// rules are those of the grammar: each goes on from where the parser stands.
type rules struct{ *parser.Parser }

// arrows parses a type.
func (r rules) arrows() *api.Node { return r.Nested("->", r.product, pairs(api.TArrow)) }

func (r rules) product() *api.Node { return r.Nested("*", r.atom, pairs(api.TPair)) }

// pairs makes trees of a kind, with two kids each.
func pairs(kind int) func(left, right *api.Node) *api.Node {
	return func(left, right *api.Node) *api.Node {
		return &api.Node{Kind: kind, Kids: []*api.Node{left, right}}
	}
}

func (r rules) atom() (n *api.Node) {
	for _, x := range plain {
		if r.Takes(x.text) {
			return &api.Node{Kind: x.kind}
		}
	}
	switch {
	case r.Sees("("):
		r.Between("(", ")", func() { n = r.arrows() })
		return n
	case r.Takes("mu"):
		n = &api.Node{Kind: api.TMu, Name: r.Named(Name)}
		r.Between("{", "}", func() { n.Kids = r.cons() })
		return n
	}
	return &api.Node{Kind: api.TName, Name: r.Named(Long)}
}

// cons parses constructors, no two of one name.
func (r rules) cons() []*api.Node {
	ahead := map[string]struct{}{}
	return r.Row("|", func() *api.Node {
		name, is := parser.Look(r.Parser, Name)
		if _, twice := ahead[name]; is && twice {
			r.Fail(api.ErrTwice)
		}
		ahead[name] = struct{}{}
		con := &api.Node{Kind: api.TCon, Name: r.Named(Name)}
		r.Needs("of")
		con.Kids = []*api.Node{r.arrows()}
		return con
	})
}
