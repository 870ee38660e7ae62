package ctor_test

import (
	"math"
	"slices"
	"strconv"
	"strings"
	"testing"

	"marquetry/api"
	"marquetry/ctor"
)

// P10.1.

// answers asks Check and Kind of a tree.
func answers(t *testing.T, n *api.Node, con, kind api.Errno) {
	t.Helper()
	if e := ctor.Check(n); e != con {
		t.Errorf("Check: %d, not %d: %.200s", int(e), int(con), ctor.Show(n))
	}
	if e := ctor.Kind(n); e != kind {
		t.Errorf("Kind: %d, not %d: %.200s", int(e), int(kind), ctor.Show(n))
	}
}

func isCon(t *testing.T, n *api.Node)  { t.Helper(); answers(t, n, api.OK, api.ErrForm) }
func isKind(t *testing.T, n *api.Node) { t.Helper(); answers(t, n, api.ErrForm, api.OK) }

func isNone(t *testing.T, n *api.Node, e api.Errno) { t.Helper(); answers(t, n, e, e) }

// agrees holds both against the oracle.
func (o oracle) agrees(t *testing.T, n *api.Node) {
	t.Helper()
	answers(t, n, o.answer(n, "C"), o.answer(n, "K"))
}

func TestSamplesOfEachForm(t *testing.T) {
	met := map[int]bool{}
	for letter, l := range samples() {
		for _, n := range l {
			switch letter {
			case "C":
				isCon(t, n)
			case "K":
				isKind(t, n)
			default:
				isNone(t, n, api.ErrForm)
			}
			met[n.Kind] = true
		}
	}
	for _, f := range forms() {
		if !met[f.kind] {
			t.Error("no sample of", f.kind)
		}
	}
	isCon(t, richCon())
}

func TestManyConstructorsHaveTheForm(t *testing.T) {
	o := newOracle()
	for _, n := range slices.Concat(smallCons(), nested()) {
		isCon(t, n)
		o.agrees(t, n)
		o.agrees(t, tree(api.CField, n))
		o.agrees(t, all(rec(field("a", n), field("b", n), field("b", n))))
	}
}

// Each list of up to three samples below each kind of node.
func TestKidsOfAllForms(t *testing.T) {
	o := newOracle()
	few := []*api.Node{nil, star(), v(1), rec(), field("a", v(0)), field("b", v(0)), kase("A", v(0)), kase("B", v(1)), leaf(0), sum(), field("", v(0))}
	rows := [][]*api.Node{nil}
	for next := 0; next < len(rows); next++ {
		if len(rows[next]) < 3 {
			for _, x := range few {
				rows = append(rows, slices.Concat(rows[next], []*api.Node{x}))
			}
		}
	}
	for _, f := range append(forms(), form{kind: 0}, form{kind: api.TArrow}, form{kind: api.XRec}, form{kind: -114}) {
		for _, row := range rows {
			n := tree(f.kind, row...)
			o.agrees(t, n)
			o.agrees(t, rec(field("a", n)))
			n.Name = "a"
			o.agrees(t, n)
			o.agrees(t, rec(n))
			o.agrees(t, sum(n))
			o.agrees(t, tree(api.CAll, n, v(0)))
		}
	}
}

func TestNodesOfAllKinds(t *testing.T) {
	o := newOracle()
	for kind := -3; kind < 300; kind++ {
		for _, row := range [][]*api.Node{nil, {v(0)}, {star()}, {v(0), v(0)}, {star(), star()}, {star(), v(0)}, {v(0), star()}, {field("a", v(0))}, {kase("A", v(0))}, {v(0), v(0), v(0)}} {
			o.agrees(t, tree(kind, row...))
		}
	}
}

// changes tells what a change of one field, or of the list of kids, makes of a node.
func changes(n api.Node) []api.Node {
	l := slices.Repeat([]api.Node{n}, 16)
	l[0].N, l[1].N, l[2].N, l[3].N, l[4].N = 1, -1, 65537, math.MaxInt, math.MinInt
	l[5].Name, l[6].Name, l[7].Name = "a", "", strings.Repeat("a", 161)
	l[8].Mark, l[9].Mark = "a", "\x00"
	l[10].Kids = slices.Concat(n.Kids, []*api.Node{v(0)})
	l[11].Kids = slices.Concat([]*api.Node{star()}, n.Kids)
	l[12].Kids = n.Kids[:max(len(n.Kids)-1, 0)]
	l[13].Kids = n.Kids[min(len(n.Kids), 1):]
	l[14].Kids = slices.Clone(n.Kids)
	slices.Reverse(l[14].Kids)
	l[15].Kids = slices.Concat(n.Kids, n.Kids)
	for _, f := range forms() {
		x := n
		x.Kind = f.kind
		l = append(l, x)
	}
	return l
}

func TestEachFieldOfEachForm(t *testing.T) {
	o := newOracle()
	for _, l := range samples() {
		for _, n := range l {
			for _, x := range changes(*n) {
				o.agrees(t, &x)
				o.agrees(t, fn(&x))
				o.agrees(t, rec(&x))
				o.agrees(t, sum(kase("A", v(0)), &x))
				o.agrees(t, tree(api.KArrow, star(), &x))
			}
		}
	}
}

// What is wrong anywhere in a tree is wrong for the whole of it.
func TestAWrongPartAtEachPlace(t *testing.T) {
	o := newOracle()
	n := guarded(richCon())
	for _, x := range nodesOf(n) {
		was := *x
		for _, now := range changes(was) {
			*x = now
			if e := ctor.Check(n); e != o.answer(n, "C") {
				t.Error(was.Kind, int(e))
			}
		}
		*x = was
	}
	isCon(t, n)
}

func TestANilAtEachPlace(t *testing.T) {
	n := guarded(richCon())
	for _, x := range nodesOf(n) {
		for i, was := range x.Kids {
			x.Kids[i] = nil
			isNone(t, n, api.ErrNil)
			x.Kids[i] = was
		}
	}
	isCon(t, n)
	to := tree(api.KArrow, star(), tree(api.KArrow, star(), star()))
	for _, x := range []*api.Node{to, to.Kids[1]} {
		for i, was := range x.Kids {
			x.Kids[i] = nil
			isNone(t, to, api.ErrNil)
			x.Kids[i] = was
		}
	}
	isKind(t, to)
}

func TestNilAheadOfAllElse(t *testing.T) {
	i, deep := leaf(api.CInt), shared(40, leaf(api.CInt))
	isNone(t, nil, api.ErrNil)
	for _, n := range []*api.Node{
		tree(api.CInt, nil), tree(0, nil), node(api.CVar, -1, "", "", nil), rec(nil), sum(nil), arrow(i, nil), arrow(nil, i), tree(api.CAll, nil, i), all(nil), tree(api.KArrow, nil, star()), rec(field("b", i), field("a", nil)), tree(0, leaf(0), leaf(-1), tree(1, nil)),
		arrow(deep, nil), arrow(nil, deep), arrow(deep, arrow(i, nil)), shared(40, arrow(i, nil)), shared(70, tree(0, nil)), within(40000, nil), arrow(full(16, i, i), nil), arrow(full(16, leaf(0), leaf(0)), nil), full(16, i, nil), full(15, i, nil),
	} {
		isNone(t, n, api.ErrNil)
	}
	many := leaf(api.CRec)
	many.Kids = make([]*api.Node, 1<<17)
	isNone(t, many, api.ErrNil)
}

// Each constructor, and each kind, has an odd number of nodes: of MaxTerm nodes there is none, and trees of just so many have no form.
func TestTheMostNodes(t *testing.T) {
	i := leaf(api.CInt)
	isCon(t, full(15, i, i))
	isCon(t, full(15, v(65536), i))
	isCon(t, shared(15, rec()))
	isCon(t, within(32767, i))
	isCon(t, record(32767, i))
	isCon(t, fn(record(32766, v(0))))
	isCon(t, cases(32767, i))
	isCon(t, tree(api.CAll, kind(14), full(14, i, i)))
	isKind(t, kind(15))
	isNone(t, arrow(kind(14), kind(14)), api.ErrForm)
	for _, n := range []*api.Node{tree(api.CRec, full(15, i, i)), tree(api.KArrow, kind(15)), field("a", full(15, i, i)), kase("A", full(15, i, i)), tree(0, slices.Repeat([]*api.Node{leaf(0)}, 65535)...), tree(0, within(32767, i))} {
		if size, _ := measures(n); size != 65536 {
			t.Error(size)
		}
		isNone(t, n, api.ErrForm)
	}
	for _, n := range []*api.Node{
		full(15, i, arrow(i, i)), full(15, i, rec(field("a", i))), arrow(full(15, i, i), i), all(full(15, i, i)), record(32768, i), cases(32768, i), within(32768, i), sum(kase("A", full(15, i, i))),
		full(16, i, i), shared(16, i), shared(40, i), shared(62, i), shared(63, i), shared(64, i), shared(200, i), kind(16), tree(api.KArrow, kind(15), star()),
		tree(0, slices.Repeat([]*api.Node{leaf(0)}, 65536)...), arrow(leaf(0), full(15, i, i)), tree(api.CInt, full(16, i, i)), shared(50, leaf(0)),
	} {
		isNone(t, n, api.ErrLong)
	}
	isNone(t, all(all(record(32766, i))), api.ErrLong)
	isNone(t, full(15, i, leaf(0)), api.ErrForm)
	isNone(t, within(32767, star()), api.ErrForm)
}

// record and cases are of 2n+1 nodes, if what lies in them is one.
func record(n int, x *api.Node) *api.Node {
	r := rec()
	for i := range n {
		r.Kids = append(r.Kids, field(strconv.Itoa(100000+i), x))
	}
	return r
}

func cases(n int, x *api.Node) *api.Node {
	s := sum()
	for i := range n {
		s.Kids = append(s.Kids, kase(strconv.Itoa(n-i), x))
	}
	return s
}

func kind(deep int) *api.Node {
	k := star()
	for range deep {
		k = tree(api.KArrow, k, k)
	}
	return k
}

func TestVariables(t *testing.T) {
	for n, e := range map[int]api.Errno{0: api.OK, 1: api.OK, 65535: api.OK, 65536: api.OK, 65537: api.ErrForm, -1: api.ErrForm, math.MaxInt: api.ErrForm, math.MinInt: api.ErrForm, 1 << 32: api.ErrForm, -65536: api.ErrForm} {
		for _, x := range []*api.Node{v(n), all(v(n)), rec(field("a", v(n))), sum(kase("A", arrow(v(0), v(n))))} {
			answers(t, x, e, api.ErrForm)
		}
	}
}

func TestLabels(t *testing.T) {
	for label, e := range map[string]api.Errno{
		"": api.ErrForm, "a": api.OK, "1": api.OK, " ": api.OK, "\x00": api.OK, "\xff": api.OK, "v:x": api.OK, "a.b": api.OK, "$": api.OK, "val": api.OK, "\u00e9": api.OK,
		strings.Repeat("a", 159): api.OK, strings.Repeat("a", 160): api.OK, strings.Repeat("a", 161): api.ErrForm, strings.Repeat("a", 1<<20): api.ErrForm,
		strings.Repeat("\u00e9", 80): api.OK, strings.Repeat("\u00e9", 80) + "a": api.ErrForm, strings.Repeat("\u00e9", 81): api.ErrForm, strings.Repeat("\xff", 160): api.OK, strings.Repeat("\xff", 161): api.ErrForm,
	} {
		answers(t, rec(field(label, v(0))), e, api.ErrForm)
		answers(t, sum(kase(label, v(0))), e, api.ErrForm)
		answers(t, sum(kase("b", v(0)), kase(label, v(0))), e, api.ErrForm)
	}
}

// labelled asks of a record, and of a sum, whose labels stand in this order.
func labelled(t *testing.T, record, sums api.Errno, labels ...string) {
	t.Helper()
	r, s := rec(), sum()
	for _, x := range labels {
		r.Kids, s.Kids = append(r.Kids, field(x, v(0))), append(s.Kids, kase(x, v(0)))
	}
	for _, up := range []func(n *api.Node) *api.Node{func(n *api.Node) *api.Node { return n }, all, func(n *api.Node) *api.Node { return arrow(v(0), rec(field("z", n))) }} {
		answers(t, up(r), record, api.ErrForm)
		answers(t, up(s), sums, api.ErrForm)
	}
}

func TestLabelsThatRise(t *testing.T) {
	labelled(t, api.OK, api.OK, "a", "b", "c")
	labelled(t, api.OK, api.OK, "a", "aa", "ab", "b")
	labelled(t, api.OK, api.OK, "1", "10", "2")
	labelled(t, api.OK, api.OK, "Z", "a", "\u00e9", "\uffff", "\U00010000", "\xff")
	labelled(t, api.OK, api.OK, "\x00", "\x00\x00", "\x01")
	labelled(t, api.OK, api.OK, "m:x", "s:a", "t:x", "v:x")
	labelled(t, api.OK, api.OK, strings.Repeat("a", 159)+"a", strings.Repeat("a", 159)+"b")
}

func TestLabelsThatFallOrAreAlike(t *testing.T) {
	labelled(t, api.ErrForm, api.OK, "b", "a")
	labelled(t, api.ErrForm, api.OK, "a", "c", "b")
	labelled(t, api.ErrForm, api.OK, "b", "a", "c")
	labelled(t, api.ErrForm, api.OK, "aa", "a")
	labelled(t, api.ErrForm, api.OK, "10", "1")
	labelled(t, api.ErrForm, api.OK, "2", "10")
	labelled(t, api.ErrForm, api.OK, "a", "Z")
	labelled(t, api.ErrForm, api.OK, "\U00010000", "\uffff")
	labelled(t, api.ErrForm, api.OK, "\xff", "\u00e9")
	labelled(t, api.ErrForm, api.ErrForm, "a", "a")
	labelled(t, api.ErrForm, api.ErrForm, "a", "b", "b")
	labelled(t, api.ErrForm, api.ErrForm, "a", "a", "b")
	labelled(t, api.ErrForm, api.ErrForm, "b", "a", "b")
	labelled(t, api.ErrForm, api.ErrForm, "a", "b", "a", "b")
	labelled(t, api.OK, api.ErrForm)
	long := record(30000, v(0))
	isCon(t, long)
	long.Kids[29999].Name = long.Kids[0].Name
	isNone(t, long, api.ErrForm)
	many := cases(30000, v(0))
	many.Kids[29999].Name = many.Kids[0].Name
	isNone(t, many, api.ErrForm)
}

func TestNamesMayStandAgainElsewhere(t *testing.T) {
	isCon(t, arrow(rec(field("a", rec(field("a", v(0))))), rec(field("a", v(0)))))
	isCon(t, sum(kase("A", sum(kase("A", v(0)))), kase("B", sum(kase("A", v(0)), kase("B", v(1))))))
}
