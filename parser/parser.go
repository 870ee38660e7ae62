// Package parser holds the steps that the layers of the grammar share: they go past tokens from a place on.
package parser

import (
	"slices"

	"marquetry/api"
)

// Parser stands at a token, or at the end of the list. Once it has met an error it stays there and takes no more, so that the rules need not ask behind each part.
type Parser struct {
	l []api.Token
	i int
	e api.Errno
}

// Parsed tells what a rule makes of the tokens from a place on, and the place where it ends; or an error, and its place.
func Parsed[T any](l []api.Token, i int, rule func(p *Parser) T) (T, int, api.Errno) {
	var nothing T
	if i < 0 || i > len(l) {
		return nothing, 0, api.ErrArg
	}
	p := &Parser{l: l, i: i}
	x := rule(p)
	if p.e != api.OK {
		return nothing, p.i, p.e
	}
	return x, p.i, api.OK
}

// Fail keeps an error, unless one was met ahead of it.
func (p *Parser) Fail(e api.Errno) {
	if p.e == api.OK {
		p.e = e
	}
}

// Key tells whether a token is there, and is a word or sign of that text.
func Key(l []api.Token, i int, text string) bool {
	return i >= 0 && i < len(l) && l[i].Kind == api.TkKey && l[i].Text == text
}

// Sees tells whether a word or sign stands here.
func (p *Parser) Sees(text string) bool { return p.e == api.OK && Key(p.l, p.i, text) }

// Takes goes past a word or sign, if it stands here.
func (p *Parser) Takes(text string) bool {
	if !p.Sees(text) {
		return false
	}
	p.i++
	return true
}

// Needs goes past a word or sign, where there is no other choice.
func (p *Parser) Needs(text string) {
	if !p.Takes(text) {
		p.Fail(api.ErrParse)
	}
}

// Look tells what a question tells of the token that stands here, and whether it tells anything.
func Look[T any](p *Parser, question func(l []api.Token, i int) (T, bool)) (T, bool) {
	if p.e != api.OK {
		var nothing T
		return nothing, false
	}
	return question(p.l, p.i)
}

// Pick goes past the token that stands here, if a question tells anything of it.
func Pick[T any](p *Parser, question func(l []api.Token, i int) (T, bool)) (T, bool) {
	x, is := Look(p, question)
	if is {
		p.i++
	}
	return x, is
}

// Named goes past a name of the sort that a question tells, where there is no other choice.
func (p *Parser) Named(sort func(l []api.Token, i int) (string, bool)) string {
	s, is := Pick(p, sort)
	if !is {
		p.Fail(api.ErrParse)
	}
	return s
}

// Part goes past what another layer parses.
func Part[T any](p *Parser, call func(l []api.Token, i int) (T, int, api.Errno)) (x T) {
	if p.e == api.OK {
		x, p.i, p.e = call(p.l, p.i)
	}
	return x
}

// Between parses what stands between two words or signs.
func (p *Parser) Between(opening, closing string, inner func()) {
	p.Needs(opening)
	inner()
	p.Needs(closing)
}

// Row parses parts, one at least, with a sign between each two.
func (p *Parser) Row(sign string, part func() *api.Node) []*api.Node {
	l := []*api.Node{part()}
	for p.Takes(sign) {
		l = append(l, part())
	}
	return l
}

// Nested parses a row, and joins each part with the tree of those behind it. It asks for no more memory of the stack, however long the row is.
func (p *Parser) Nested(sign string, part func() *api.Node, join func(left, right *api.Node) *api.Node) *api.Node {
	l := p.Row(sign, part)
	last := len(l) - 1
	n := l[last]
	for _, left := range slices.Backward(l[:last]) {
		n = join(left, n)
	}
	return n
}
