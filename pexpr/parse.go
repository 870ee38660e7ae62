package pexpr

import (
	"slices"

	"marquetry/api"
	"marquetry/parser"
	"marquetry/ptype"
)

// rules are those of the grammar: each goes on from where the parser stands.
type rules struct{ *parser.Parser }

func tree(kind int, kids ...*api.Node) *api.Node { return &api.Node{Kind: kind, Kids: kids} }

func operation(kind int, left, right *api.Node) *api.Node {
	return &api.Node{Kind: api.EOp, N: kind, Kids: []*api.Node{left, right}}
}

func (r rules) expr() *api.Node {
	switch {
	case r.Takes("fn"):
		return r.function()
	case r.Takes("let"):
		n := &api.Node{Kind: api.ELet, Name: r.Named(ptype.Name)}
		n.Kids = []*api.Node{r.behind("="), r.behind("in")}
		r.Needs("end")
		return n
	case r.Takes("if"):
		return tree(api.EIf, r.expr(), r.behind("then"), r.behind("else"))
	case r.Takes("case"):
		return r.withArms(tree(api.ECase, r.expr()))
	case r.Takes("fold"):
		return r.withArms(tree(api.EFold, r.expr(), r.typeBehind("to")))
	}
	return r.comparison()
}

// behind parses the expression behind a word or sign.
func (r rules) behind(text string) *api.Node {
	r.Needs(text)
	return r.expr()
}

func (r rules) typeBehind(text string) *api.Node {
	r.Needs(text)
	return parser.Part(r.Parser, ptype.Type)
}

// function parses what stands behind fn.
func (r rules) function() *api.Node {
	n := &api.Node{Kind: api.ELam}
	r.Between("(", ")", func() {
		n.Name = r.Named(ptype.Name)
		n.Kids = []*api.Node{r.typeBehind(":")}
	})
	n.Kids = append(n.Kids, r.behind("=>"))
	return n
}

// withArms parses arms, and puts them behind a tree's kids.
func (r rules) withArms(n *api.Node) *api.Node {
	r.Between("of", "end", func() { n.Kids = append(n.Kids, r.Row("|", r.arm)...) })
	return n
}

func (r rules) arm() *api.Node {
	n := &api.Node{Kind: api.EArm, Name: r.Named(ptype.Name), Mark: r.Named(ptype.Name)}
	n.Kids = []*api.Node{r.behind("=>")}
	return n
}

// comparison parses a sum, or two: behind a comparison no other one goes on.
func (r rules) comparison() *api.Node {
	left := r.sum()
	if kind, is := r.operator(asComparison); is {
		return operation(kind, left, r.sum())
	}
	return left
}

func (r rules) sum() *api.Node { return r.leftward(r.term, asSum) }

func (r rules) term() *api.Node { return r.leftward(r.application, asTerm) }

// leftward parses a row of what binds tighter, with a rule's signs between, and joins the tree of those ahead with each part behind them. It asks for no more memory of the stack, however long the row is.
func (r rules) leftward(tighter func() *api.Node, rule int) *api.Node {
	n := tighter()
	for kind, is := r.operator(rule); is; kind, is = r.operator(rule) {
		n = operation(kind, n, tighter())
	}
	return n
}

// operator goes past a sign of a rule's operations, if it stands here, and tells its kind.
func (r rules) operator(rule int) (int, bool) {
	for _, x := range operators {
		if x.rule == rule && r.Takes(x.sign) {
			return x.kind, true
		}
	}
	return 0, false
}

func (r rules) application() *api.Node {
	n, begins := r.atom()
	if !begins {
		r.Fail(api.ErrParse)
	}
	for x, begins := r.atom(); begins; x, begins = r.atom() {
		n = tree(api.EApp, n, x)
	}
	return n
}

// atom parses an atom, if one begins here. Its signs #1 and #2 are gone past by a loop, which asks for no more memory of the stack, however many they are.
func (r rules) atom() (*api.Node, bool) {
	var halves []int
	for half, is := r.half(); is; half, is = r.half() {
		halves = append(halves, half)
	}
	n, begins := r.whole()
	if !begins && len(halves) > 0 {
		r.Fail(api.ErrParse)
	}
	for _, half := range slices.Backward(halves) {
		n = tree(half, n)
	}
	return n, begins
}

// half goes past a sign that asks for half a pair, if one stands here.
func (r rules) half() (int, bool) {
	switch {
	case r.Takes("#1"):
		return api.EFst, true
	case r.Takes("#2"):
		return api.ESnd, true
	}
	return 0, false
}

// whole parses an atom that begins with neither #1 nor #2, if one begins here.
func (r rules) whole() (*api.Node, bool) {
	if n, is := parser.Pick(r.Parser, number); is {
		return &api.Node{Kind: api.EInt, N: n}, true
	}
	if name, is := parser.Pick(r.Parser, ptype.Long); is {
		return &api.Node{Kind: api.EVar, Name: name}, true
	}
	switch {
	case r.Takes("true"):
		return &api.Node{Kind: api.EBool, N: 1}, true
	case r.Takes("false"):
		return tree(api.EBool), true
	case r.Sees("("):
		return r.inSigns(), true
	}
	return nil, false
}

// number tells whether a token is there, and is a number that may be, and which one. Whoever makes tokens may put any number there, and what is parsed would be no expression.
func number(l []api.Token, i int) (int, bool) {
	if i < 0 || i >= len(l) || l[i].Kind != api.TkInt || l[i].N < -api.MaxInt || l[i].N > api.MaxInt {
		return 0, false
	}
	return l[i].N, true
}

// inSigns parses what stands between ( and ): nothing, an expression, or two.
func (r rules) inSigns() (n *api.Node) {
	r.Between("(", ")", func() {
		if r.Sees(")") {
			n = tree(api.EUnit)
			return
		}
		n = r.expr()
		if r.Takes(",") {
			n = tree(api.EPair, n, r.expr())
		}
	})
	return n
}
