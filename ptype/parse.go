package ptype

import (
	"slices"

	"marquetry/api"
)

// parser stands at a token, or at the end of the list. Once it has met an error it stays there and takes no more, so that the rules need not ask behind each part.
type parser struct {
	l []api.Token
	i int
	e api.Errno
}

// parsed tells what a rule makes of the tokens from a place on, and the place where it ends; or an error, and its place.
func parsed[T any](l []api.Token, i int, rule func(p *parser) T) (T, int, api.Errno) {
	var nothing T
	if i < 0 || i > len(l) {
		return nothing, 0, api.ErrArg
	}
	p := &parser{l: l, i: i}
	x := rule(p)
	if p.e != api.OK {
		return nothing, p.i, p.e
	}
	return x, p.i, api.OK
}

// fail keeps an error, unless one was met ahead of it.
func (p *parser) fail(e api.Errno) {
	if p.e == api.OK {
		p.e = e
	}
}

// sees tells whether a word or sign stands here.
func (p *parser) sees(text string) bool { return p.e == api.OK && Key(p.l, p.i, text) }

// takes goes past a word or sign, if it stands here.
func (p *parser) takes(text string) bool {
	if !p.sees(text) {
		return false
	}
	p.i++
	return true
}

// needs goes past a word or sign, where there is no other choice.
func (p *parser) needs(text string) {
	if !p.takes(text) {
		p.fail(api.ErrParse)
	}
}

// named goes past a name of a sort (Name, Long), where there is no other choice.
func (p *parser) named(sort func(l []api.Token, i int) (string, bool)) string {
	s, is := sort(p.l, p.i)
	if !is {
		p.fail(api.ErrParse)
	}
	if p.e != api.OK {
		return ""
	}
	p.i++
	return s
}

// between parses what stands between two signs.
func (p *parser) between(opening, closing string, inner func()) {
	p.needs(opening)
	inner()
	p.needs(closing)
}

// row parses parts, one at least, with a sign between each two.
func (p *parser) row(sign string, part func() *api.Node) []*api.Node {
	l := []*api.Node{part()}
	for p.takes(sign) {
		l = append(l, part())
	}
	return l
}

// nested parses a row, and puts each part ahead of the tree of those behind it. It asks for no more memory of the stack, however long the row is.
func (p *parser) nested(sign string, kind int, part func() *api.Node) *api.Node {
	l := p.row(sign, part)
	last := len(l) - 1
	n := l[last]
	for _, left := range slices.Backward(l[:last]) {
		n = &api.Node{Kind: kind, Kids: []*api.Node{left, n}}
	}
	return n
}

// arrows parses a type.
func (p *parser) arrows() *api.Node { return p.nested("->", api.TArrow, p.product) }

func (p *parser) product() *api.Node { return p.nested("*", api.TPair, p.atom) }

func (p *parser) atom() (n *api.Node) {
	for _, x := range plain {
		if p.takes(x.text) {
			return &api.Node{Kind: x.kind}
		}
	}
	switch {
	case p.sees("("):
		p.between("(", ")", func() { n = p.arrows() })
		return n
	case p.takes("mu"):
		n = &api.Node{Kind: api.TMu, Name: p.named(Name)}
		p.between("{", "}", func() { n.Kids = p.cons() })
		return n
	}
	return &api.Node{Kind: api.TName, Name: p.named(Long)}
}

// cons parses constructors, no two of one name.
func (p *parser) cons() []*api.Node {
	ahead := map[string]struct{}{}
	return p.row("|", func() *api.Node {
		name, is := Name(p.l, p.i)
		if _, twice := ahead[name]; is && twice {
			p.fail(api.ErrTwice)
		}
		ahead[name] = struct{}{}
		con := &api.Node{Kind: api.TCon, Name: p.named(Name)}
		p.needs("of")
		con.Kids = []*api.Node{p.arrows()}
		return con
	})
}
