package kinding

import (
	"marquetry/api"
	"marquetry/arena"
)

// scope is the kinds of variables: a list of them, ahead of another scope's.
type scope struct {
	kinds []*api.Node
	rest  *scope
}

// ahead tells a scope with more kinds ahead. They stay a list of their own: were they put into one with those behind, each binder would copy the whole of it.
func ahead(rest *scope, kinds ...*api.Node) *scope { return &scope{kinds, rest} }

// at tells the kind of a variable.
func (s *scope) at(i int) (*api.Node, api.Errno) {
	for ; s != nil; s = s.rest {
		if i < len(s.kinds) {
			return s.kinds[i], api.OK
		}
		i -= len(s.kinds)
	}
	return nil, api.ErrName
}

// finder finds kinds of what is known to be a constructor, and whose binders' strays are known.
type finder struct{ strays map[*api.Node]struct{} }

// question asks for a part's kind.
type question func(part *api.Node) (*api.Node, api.Errno)

// in tells the question that is asked of parts in a scope.
func (f finder) in(s *scope) question {
	return func(part *api.Node) (*api.Node, api.Errno) { return f.kind(s, part) }
}

func (f finder) kind(s *scope, n *api.Node) (*api.Node, api.Errno) {
	switch n.Kind {
	case api.CVar:
		return s.at(n.N)
	case api.CArrow, api.CRec:
		return types(f.in(s), n.Kids...)
	case api.CField, api.CCase: // they have that of what lies in them
		return f.kind(s, n.Kids[0])
	case api.CAll, api.CEx:
		return types(f.in(ahead(s, n.Kids[0])), n.Kids[1])
	case api.CLam:
		return function(f.in(ahead(s, n.Kids[0])), n.Kids[0], n.Kids[1])
	case api.CApp:
		return applied(f.in(s), n.Kids[0], n.Kids[1])
	case api.CSum:
		return f.sum(s, n)
	}
	return star(), api.OK
}

func (f finder) sum(s *scope, n *api.Node) (*api.Node, api.Errno) {
	k, e := types(f.in(ahead(s, star())), n.Kids...)
	if _, stray := f.strays[n]; stray && e == api.OK {
		return nil, api.ErrRec
	}
	return k, e
}

// types tells the kind of what all parts of must be types.
func types(ask question, parts ...*api.Node) (*api.Node, api.Errno) {
	fit := true
	for _, part := range parts {
		k, e := ask(part)
		if e != api.OK {
			return nil, e
		}
		fit = fit && k.Kind == api.KStar // told behind the errors of all parts
	}
	if !fit {
		return nil, api.ErrKind
	}
	return star(), api.OK
}

// function tells the kind of a function from a kind to what is asked.
func function(ask question, from, body *api.Node) (*api.Node, api.Errno) {
	to, e := ask(body)
	if e != api.OK {
		return nil, e
	}
	return &api.Node{Kind: api.KArrow, Kids: []*api.Node{from, to}}, api.OK
}

// applied tells the kind of what a function makes of what it is handed.
func applied(ask question, fn, arg *api.Node) (*api.Node, api.Errno) {
	k, e := ask(fn)
	if e != api.OK {
		return nil, e
	}
	from, e := ask(arg)
	if e != api.OK {
		return nil, e
	}
	if k.Kind != api.KArrow || !arena.Same(k.Kids[0], from) {
		return nil, api.ErrKind
	}
	return k.Kids[1], api.OK
}

func star() *api.Node { return &api.Node{Kind: api.KStar} }
