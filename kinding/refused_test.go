package kinding_test

import (
	"slices"
	"testing"

	"marquetry/api"
	"marquetry/arena"
	"marquetry/ctor"
	"marquetry/kinding"
)

// P12.1, of what may not be asked, and the edges.

// refused tells trees that are no constructors, and what is answered of them, whatever they lie in.
func refused() map[*api.Node]api.Errno {
	short := app(v(0), num())
	short.Kids = short.Kids[:1]
	return map[*api.Node]api.Errno{
		nil: api.ErrNil, arrow(nil, num()): api.ErrNil, arrow(num(), nil): api.ErrNil, tree(api.CLam, nil, v(0)): api.ErrNil, rec(nil): api.ErrNil, sum(nil): api.ErrNil, sum(kase("A", nil)): api.ErrNil, rec(field("a", nil)): api.ErrNil, tree(api.CAll, tree(api.KArrow, star(), nil), num()): api.ErrNil,
		arrow(star(), nil): api.ErrNil, tree(api.KArrow, nil, star()): api.ErrNil, leafWith(nil): api.ErrNil, arrow(padded(65535, num()), nil): api.ErrNil,
		star(): api.ErrForm, one(): api.ErrForm, short: api.ErrForm, arrow(num(), star()): api.ErrForm, app(one(), num()): api.ErrForm, tree(api.CArrow): api.ErrForm, tree(api.CApp, num()): api.ErrForm, tree(api.CApp, v(0), num(), num()): api.ErrForm,
		tree(api.CLam, num(), v(0)): api.ErrForm, tree(api.CAll, v(0)): api.ErrForm, tree(api.CEx, star(), star()): api.ErrForm, tree(api.CLam, kase("A", num()), num()): api.ErrForm,
		leaf(0): api.ErrForm, leaf(-1): api.ErrForm, leaf(api.TInt): api.ErrForm, leaf(api.XUnit): api.ErrForm, field("a", num()): api.ErrForm, kase("A", num()): api.ErrForm, sum(): api.ErrForm, rec(num()): api.ErrForm, sum(num()): api.ErrForm,
		sum(field("a", num())): api.ErrForm, rec(kase("A", num())): api.ErrForm, sum(kase("A", num()), kase("A", num())): api.ErrForm, rec(field("b", num()), field("a", num())): api.ErrForm, rec(field("", num())): api.ErrForm,
		v(-1): api.ErrForm, v(65537): api.ErrForm, node(api.CInt, 1, "", ""): api.ErrForm, node(api.CUnit, 0, "a", ""): api.ErrForm, node(api.CVar, 0, "", "a"): api.ErrForm, leafWith(num()): api.ErrForm,
		padded(65537, num()): api.ErrLong, padded(65537, star()): api.ErrLong, row(32768, num()): api.ErrLong, shared(16, api.CArrow, num()): api.ErrLong, shared(200, api.CArrow, num()): api.ErrLong,
	}
}

// leafWith is an int with a kid.
func leafWith(n *api.Node) *api.Node { return tree(api.CInt, n) }

// noKinds tells trees that are no kinds, and what a context that has one is refused with.
func noKinds() map[*api.Node]api.Errno {
	short := one()
	short.Kids = short.Kids[:1]
	return map[*api.Node]api.Errno{
		nil: api.ErrNil, tree(api.KArrow, nil, star()): api.ErrNil, tree(api.KArrow, star(), nil): api.ErrNil, tree(api.KStar, nil): api.ErrNil, kfn(star(), kfn(one(), tree(api.KArrow, star(), nil))): api.ErrNil, arrow(nil, num()): api.ErrNil, fn(nil): api.ErrNil, leafWith(nil): api.ErrNil, kfn(long(65535), nil): api.ErrNil,
		num(): api.ErrArg, v(0): api.ErrArg, fn(v(0)): api.ErrArg, arrow(star(), star()): api.ErrArg, rec(): api.ErrArg, sum(kase("A", num())): api.ErrArg, short: api.ErrArg, tree(api.KArrow): api.ErrArg, tree(api.KArrow, star(), star(), star()): api.ErrArg, tree(api.KStar, star()): api.ErrArg, kfn(star(), num()): api.ErrArg, kfn(num(), star()): api.ErrArg,
		node(api.KStar, 1, "", ""): api.ErrArg, node(api.KStar, 0, "a", ""): api.ErrArg, node(api.KStar, 0, "", "a"): api.ErrArg, node(api.KArrow, -1, "", "", star(), star()): api.ErrArg, leaf(0): api.ErrArg, leaf(api.TInt): api.ErrArg, leaf(102): api.ErrArg, leaf(-100): api.ErrArg,
		long(65537): api.ErrArg, shared(16, api.KArrow, star()): api.ErrArg, shared(200, api.KArrow, star()): api.ErrArg, tree(api.KArrow, long(65535)): api.ErrArg,
	}
}

// both asks Kind and Star for an error.
func both(t *testing.T, ctx []*api.Node, n *api.Node, want api.Errno) {
	t.Helper()
	k, e := kinding.Kind(ctx, n)
	if f := kinding.Star(ctx, n); k != nil || e != want || f != want {
		t.Errorf("%.200s: %.200s, %d, %d, not %d", ctor.Show(n), text(k), int(e), int(f), int(want))
	}
}

func TestWhatIsNoConstructor(t *testing.T) {
	for n, e := range refused() {
		for _, ctx := range contexts() {
			both(t, ctx, n, e)
		}
		both(t, nil, arrow(num(), n), e)
		both(t, nil, fn(n), e)
		both(t, nil, sum(kase("A", n)), e)
		both(t, nil, arrow(v(0), n), e) // ahead of what would be wrong with the parts
		both(t, nil, app(num(), n), e)
	}
}

func TestWhatIsNoContext(t *testing.T) {
	for k, e := range noKinds() {
		for _, n := range []*api.Node{num(), v(0), v(1), v(7), fn(v(0)), arrow(v(0), fn(num())), app(num(), num()), sum(kase("A", arrow(v(0), v(0))))} {
			both(t, []*api.Node{k}, n, e) // the constructor need not have the variable
			both(t, []*api.Node{star(), k}, n, e)
			both(t, []*api.Node{k, star(), one()}, n, e)
			both(t, slices.Concat(kinds(), []*api.Node{k}, kinds()), n, e)
			both(t, []*api.Node{k, k}, n, e)
		}
	}
}

// What is nil, or not whole, comes first, be it in the context; then what is wrong with the constructor; then what is no kind.
func TestTheOrderOfWhatIsRefused(t *testing.T) {
	few, fewKinds := little(refused()), little(noKinds())
	for k, e := range fewKinds {
		for n, f := range few {
			want := f
			if e == api.ErrNil {
				want = e
			}
			both(t, []*api.Node{k}, n, want)
			both(t, []*api.Node{star(), k, one()}, n, want)
		}
		for l, f := range fewKinds {
			want := api.ErrArg
			if e == api.ErrNil || f == api.ErrNil {
				want = api.ErrNil
			}
			both(t, []*api.Node{k, l}, num(), want)
			both(t, []*api.Node{k, star(), l, one()}, v(9), want)
			if want == api.ErrNil {
				both(t, []*api.Node{k, l}, star(), want)
			}
		}
	}
	long, longKind, gap := padded(65537, num()), long(65537), arrow(padded(65537, num()), nil)
	both(t, []*api.Node{num()}, long, api.ErrLong)
	both(t, []*api.Node{longKind}, long, api.ErrLong)
	both(t, []*api.Node{longKind}, star(), api.ErrForm)
	both(t, []*api.Node{longKind}, v(9), api.ErrArg)
	both(t, []*api.Node{longKind}, gap, api.ErrNil)
	both(t, []*api.Node{longKind, nil}, long, api.ErrNil)
	both(t, []*api.Node{kfn(longKind, nil)}, long, api.ErrNil)
	both(t, []*api.Node{num(), kfn(longKind, nil), star()}, star(), api.ErrNil)
}

// little leaves out those trees that have many nodes, for they take long.
func little(l map[*api.Node]api.Errno) map[*api.Node]api.Errno {
	few := map[*api.Node]api.Errno{}
	for n, e := range l {
		if arena.Size(n) < 1000 {
			few[n] = e
		}
	}
	return few
}

func TestTheLastVariableOfTheContext(t *testing.T) {
	var ctx []*api.Node
	for many := range 200 {
		both(t, ctx, v(many), api.ErrName)
		both(t, ctx, all(v(many+1)), api.ErrName)
		both(t, ctx, sum(kase("A", rec(field("a", v(many+1))))), api.ErrName)
		both(t, ctx, fn(all(v(many+2))), api.ErrName)
		ctx = append(ctx, kinds()[many%6])
		k := ctx[many]
		has(t, ctx, v(many), k, api.OK)
		has(t, ctx, fn(v(many+1)), kfn(star(), k), api.OK)
		has(t, ctx, fn(fn(v(many+2))), kfn(star(), star(), k), api.OK)
	}
	isType(t, ctx[:1], all(v(1)))
	isType(t, ctx[:1], sum(kase("A", v(1))))
	// the greatest variable that a constructor has
	most := slices.Repeat([]*api.Node{star()}, 65536)
	both(t, most, v(65536), api.ErrName)
	isType(t, most, v(65535))
	isType(t, most, all(v(65536)))
	most = append(most, one())
	has(t, most, v(65536), one(), api.OK)
	isType(t, most, all(v(65536)))
	both(t, most, arrow(v(65535), v(65536)), api.ErrKind)
	both(t, append(most, one(), star()), v(65537), api.ErrForm)
}

// Each constructor has an odd number of nodes, so MaxTerm - 1 is the most that one has, and a tree of just MaxTerm is none.
func TestTheMostNodes(t *testing.T) {
	isType(t, nil, padded(65535, num()))
	isType(t, nil, row(32767, num()))
	isType(t, []*api.Node{star()}, row(32767, v(0)))
	has(t, nil, fn(padded(65533, v(0))), one(), api.OK)
	has(t, nil, tree(api.CLam, long(65533), v(0)), kfn(long(65533), long(65533)), api.OK)
	both(t, nil, padded(65535, v(0)), api.ErrName)
	both(t, nil, padded(65535, fn(v(0))), api.ErrKind)
	both(t, nil, padded(65535, sum(kase("A", arrow(v(0), v(0))))), api.ErrRec)
	both(t, nil, tree(api.CRec, padded(65535, num())), api.ErrForm)
	both(t, nil, padded(65537, num()), api.ErrLong)
	both(t, nil, padded(65537, v(0)), api.ErrLong)
	both(t, nil, row(32768, num()), api.ErrLong)
	both(t, nil, tree(api.CLam, long(65535), v(0)), api.ErrLong)
	fit(t, sum(kase("A", padded(65533, v(1)))), api.OK)
	fit(t, sum(kase("A", padded(65533, v(0)))), api.ErrRec)
	fit(t, sum(kase("A", row(32766, v(0)))), api.OK)
	fit(t, sum(kase("A", padded(65535, v(1)))), api.ErrLong)
	fit(t, tree(api.CSum, padded(65535, v(1))), api.ErrForm)
}

// A kind of the context may have as many nodes, and what is told may have more.
func TestLongKinds(t *testing.T) {
	k := long(65535)
	has(t, []*api.Node{k}, v(0), k, api.OK)
	has(t, []*api.Node{k}, fn(v(1)), kfn(star(), k), api.OK)
	has(t, []*api.Node{k}, fn(fn(v(2))), kfn(star(), star(), k), api.OK)
	has(t, []*api.Node{k}, app(v(0), num()), long(65533), api.OK)
	isType(t, []*api.Node{kfn(k.Kids[1], star()), long(65533)}, app(v(0), v(1)))
	fails(t, []*api.Node{kfn(k.Kids[1], star()), long(65531)}, app(v(0), v(1)), api.ErrKind)
	fails(t, []*api.Node{k}, app(v(0), v(0)), api.ErrKind)
	both(t, []*api.Node{long(65537)}, num(), api.ErrArg)
}
