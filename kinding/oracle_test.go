package kinding_test

import (
	"regexp"
	"strconv"
	"strings"

	"marquetry/api"
)

// oracle_test.go lays a constructor out as a list of places, what lies in a place ahead of it, and gives each its kind as a text, one after the other: the first place that may get none tells the error. What a variable means is looked for upwards, and whether a sum fits is told by a pattern over the kinds of nodes on the way. It shares nothing with the package.

// spot is a node where it stands.
type spot struct {
	n     *api.Node
	above *spot
	kid   int // which one it is of those of the one above
	kind  string
}

// layout tells all spots of a tree, kids ahead of what they lie in.
func layout(n *api.Node) []*spot {
	var l []*spot
	var lay func(s *spot)
	lay = func(s *spot) {
		for i, kid := range s.n.Kids {
			lay(&spot{n: kid, above: s, kid: i})
		}
		l = append(l, s)
	}
	lay(&spot{n: n})
	return l
}

// binder tells the spot that binds a variable, and the letters of the kinds of nodes on the way up to it; or none, and the variable's number outside.
func (s *spot) binder() (at *spot, way string, outside int) {
	outside = s.n.N
	for x := s; x.above != nil; x = x.above {
		kind := x.above.n.Kind
		if kind == api.CSum || x.kid == 1 && (kind == api.CAll || kind == api.CEx || kind == api.CLam) {
			if outside == 0 {
				return x.above, way, 0
			}
			outside--
		}
		switch kind {
		case api.CRec:
			way += "r"
		case api.CField:
			way += "f"
		case api.CCase:
			way += "c"
		default:
			way += "x"
		}
	}
	return nil, "", outside
}

// text writes a kind; of what is none, or has more than it should, a text that no kind has.
func text(k *api.Node) string {
	var b strings.Builder
	var write func(k *api.Node)
	write = func(k *api.Node) {
		switch {
		case k == nil:
			b.WriteString("none")
		case k.N != 0 || k.Name != "" || k.Mark != "":
			b.WriteString("more")
		case k.Kind == api.KStar && len(k.Kids) == 0:
			b.WriteString("*")
		case k.Kind == api.KArrow && len(k.Kids) == 2:
			b.WriteString("(")
			write(k.Kids[0])
			b.WriteString(">")
			write(k.Kids[1])
			b.WriteString(")")
		default:
			b.WriteString("other " + strconv.Itoa(k.Kind))
		}
	}
	write(k)
	return b.String()
}

func to(a, b string) string { return "(" + a + ">" + b + ")" }

// own tells the kind of a spot whose kids have theirs, or the spot's own error.
func (s *spot) own(ctx []string, kids []*spot, misfits map[*spot]bool) (string, api.Errno) {
	last := ""
	same := true // are all kids that are constructors types?
	for _, x := range kids {
		last = x.kind
		same = same && last == "*"
	}
	switch s.n.Kind {
	case api.KStar, api.CInt, api.CBool, api.CUnit:
		return "*", api.OK
	case api.KArrow:
		return to(kids[0].kind, kids[1].kind), api.OK
	case api.CField, api.CCase:
		return last, api.OK
	case api.CVar:
		at, _, outside := s.binder()
		switch {
		case at != nil && at.n.Kind == api.CSum:
			return "*", api.OK
		case at != nil:
			return text(at.n.Kids[0]), api.OK
		case outside < len(ctx):
			return ctx[outside], api.OK
		}
		return "", api.ErrName
	case api.CLam:
		return to(kids[0].kind, last), api.OK
	case api.CApp:
		if rest, ok := strings.CutPrefix(kids[0].kind, "("+last+">"); ok {
			return strings.TrimSuffix(rest, ")"), api.OK
		}
		return "", api.ErrKind
	case api.CAll, api.CEx:
		same = last == "*"
	}
	switch {
	case !same:
		return "", api.ErrKind
	case misfits[s]:
		return "", api.ErrRec
	}
	return "*", api.OK
}

// onlyRecords is what may stand between a variable and its sum: from the variable up, fields of records, and the case.
var onlyRecords = regexp.MustCompile("^(fr)*c$")

// misfits tells the sums that do not fit.
func misfits(l []*spot) map[*spot]bool {
	found := map[*spot]bool{}
	for _, s := range l {
		if s.n.Kind != api.CVar {
			continue
		}
		if at, way, _ := s.binder(); at != nil && at.n.Kind == api.CSum && !onlyRecords.MatchString(way) {
			found[at] = true
		}
	}
	return found
}

// kindOf tells the text of what Kind should answer of a constructor, and the error.
func kindOf(ctx []string, n *api.Node) (string, api.Errno) {
	l := layout(n)
	below := map[*spot][]*spot{}
	bad := misfits(l)
	for _, s := range l {
		k, e := s.own(ctx, below[s], bad)
		if e != api.OK {
			return "none", e
		}
		s.kind = k
		below[s.above] = append(below[s.above], s)
	}
	return l[len(l)-1].kind, api.OK
}

// fitsOf tells what Fits should answer of a constructor.
func fitsOf(n *api.Node) api.Errno {
	if n.Kind != api.CSum {
		return api.ErrForm
	}
	for at := range misfits(layout(n)) {
		if at.above == nil {
			return api.ErrRec
		}
	}
	return api.OK
}

// texts writes kinds.
func texts(ctx []*api.Node) []string {
	var l []string
	for _, k := range ctx {
		l = append(l, text(k))
	}
	return l
}

// sizeOf tells how many nodes a whole tree has.
func sizeOf(n *api.Node) int {
	size := 0
	for level := []*api.Node{n}; len(level) > 0; {
		var next []*api.Node
		for _, x := range level {
			size++
			next = append(next, x.Kids...)
		}
		level = next
	}
	return size
}
