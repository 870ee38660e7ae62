package parser_test

import (
	"math"
	"slices"
	"strings"
	"testing"

	"marquetry/api"
	"marquetry/parser"
)

// keys cuts a text at its blanks into words and signs.
func keys(s string) []api.Token {
	var l []api.Token
	for _, x := range strings.Fields(s) {
		l = append(l, api.Token{Kind: api.TkKey, Text: x})
	}
	return l
}

// run tells where a rule ends, and its error.
func run(s string, rule func(p *parser.Parser)) (int, api.Errno) {
	_, next, e := parser.Parsed(keys(s), 0, func(p *parser.Parser) int {
		rule(p)
		return 7
	})
	return next, e
}

func TestParsedTellsWhatARuleMakesOrAnError(t *testing.T) {
	for i, want := range map[int]api.Errno{-1: api.ErrArg, 0: api.OK, 1: api.OK, 2: api.OK, 3: api.ErrArg, math.MinInt: api.ErrArg, math.MaxInt: api.ErrArg} {
		x, next, e := parser.Parsed(keys("a b"), i, func(*parser.Parser) int { return 7 })
		if e != want || e == api.OK && (x != 7 || next != i) || e != api.OK && (x != 0 || next != 0) {
			t.Error(i, x, next, int(e))
		}
	}
	x, next, e := parser.Parsed(keys("a b"), 0, func(p *parser.Parser) []int {
		p.Needs("a")
		p.Needs("a")
		return []int{7}
	})
	if x != nil || next != 1 || e != api.ErrParse {
		t.Error(x, next, int(e))
	}
}

func TestKey(t *testing.T) {
	l := append(keys("a"), api.Token{Kind: api.TkName, Text: "a"})
	for i, want := range map[int]bool{-1: false, 0: true, 1: false, 2: false, math.MinInt: false, math.MaxInt: false} {
		if parser.Key(l, i, "a") != want || parser.Key(l, i, "b") {
			t.Error(i)
		}
	}
}

// What is met first is told, and nothing is taken behind it.
func TestNothingIsTakenBehindAnError(t *testing.T) {
	anyone := func(l []api.Token, i int) (string, bool) { return "anyone", true }
	next, e := run("a a a", func(p *parser.Parser) {
		p.Needs("a")
		p.Fail(api.ErrTwice)
		p.Fail(api.ErrParse)
		p.Needs("b")
		_, looked := parser.Look(p, anyone)
		_, picked := parser.Pick(p, anyone)
		part := parser.Part(p, func([]api.Token, int) (int, int, api.Errno) { return 5, 3, api.OK })
		if p.Sees("a") || p.Takes("a") || looked || picked || part != 0 || p.Named(anyone) != "" {
			t.Error("taken")
		}
	})
	if next != 1 || e != api.ErrTwice {
		t.Error(next, int(e))
	}
}

func TestStepsGoOnOrFail(t *testing.T) {
	isA := func(l []api.Token, i int) (string, bool) {
		if parser.Key(l, i, "a") {
			return "A", true
		}
		return "", false
	}
	for s, want := range map[string]int{"a": 1, "": 0, "b": 0} {
		next, e := run(s, func(p *parser.Parser) {
			sees := p.Sees("a")
			looked, is := parser.Look(p, isA)
			if sees != is || is != (looked == "A") || is != (s == "a") || p.Named(isA) != looked {
				t.Error(s)
			}
		})
		if next != want || (e == api.OK) != (want == 1) {
			t.Error(s, next, int(e))
		}
	}
	for s, want := range map[string]int{"( a )": 3, "( a": -2, "( )": -1, "a )": 0, "( a a": -2} {
		next, e := run(s, func(p *parser.Parser) { p.Between("(", ")", func() { p.Needs("a") }) })
		if next != max(want, -want) || (e == api.OK) != (want > 0) {
			t.Error(s, next, int(e))
		}
	}
}

func TestPartTakesAnotherCallsPlaceAndError(t *testing.T) {
	for _, want := range []api.Errno{api.OK, api.ErrParse, api.ErrTwice} {
		next, e := run("a b c", func(p *parser.Parser) {
			p.Needs("a")
			if x := parser.Part(p, func(l []api.Token, i int) (int, int, api.Errno) { return i + 10, i + 1, want }); x != 11 {
				t.Error(x)
			}
		})
		if next != 2 || e != want {
			t.Error(next, int(e))
		}
	}
}

func TestRows(t *testing.T) {
	for s, want := range map[string]int{"a": 1, "a , a": 3, "a , a , a a": 5, "a a": 1, "a ,": -2, ", a": 0, "": 0, "a , , a": -2} {
		var flat, nested string
		part := func(p *parser.Parser) func() *api.Node {
			return func() *api.Node {
				p.Needs("a")
				return &api.Node{Name: "a"}
			}
		}
		next, e := run(s, func(p *parser.Parser) { flat = strings.Repeat("a", len(p.Row(",", part(p)))) })
		again, f := run(s, func(p *parser.Parser) {
			nested = p.Nested(",", part(p), func(left, right *api.Node) *api.Node {
				return &api.Node{Name: "(" + left.Name + right.Name + ")"}
			}).Name
		})
		if next != max(want, -want) || (e == api.OK) != (want > 0) || again != next || f != e {
			t.Error(s, next, int(e))
		}
		trees := []string{"", "a", "(aa)", "(a(aa))"}
		if e == api.OK && !slices.Contains(trees[len(flat):len(flat)+1], nested) {
			t.Error(s, flat, nested)
		}
	}
}
