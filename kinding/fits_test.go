package kinding_test

import (
	"testing"

	"marquetry/api"
	"marquetry/ctor"
	"marquetry/kinding"
)

// P12.2.

// fitting tells sums that fit, and have a kind where the variable 0 outside has one, and 1 is a type.
func fitting() []*api.Node {
	i := num()
	l := []*api.Node{
		sum(kase("A", i)), sum(kase("A", v(0))), sum(kase("A", v(0)), kase("B", v(0))), sum(kase("A", v(2))), sum(kase("A", arrow(v(2), i))), sum(kase("A", rec())),
		sum(kase("N", leaf(api.CUnit)), kase("C", rec(field("1", i), field("2", v(0))))), sum(kase("A", rec(field("1", v(0)), field("2", v(0)), field("3", v(0))))), sum(kase("A", rec(field("a", rec(field("a", v(0)))), field("b", v(0))))),
		// binders of their own
		sum(kase("A", all(v(0)))), sum(kase("A", ex(arrow(v(0), v(0))))), sum(kase("A", fnOf(i))), sum(kase("A", sum(kase("A", v(0))))), sum(kase("A", sum(kase("A", rec(field("a", v(0))))))), sum(kase("A", rec(field("a", sum(kase("A", v(0)))), field("b", v(0))))),
		sum(kase("A", all(sum(kase("A", rec(field("a", v(0)), field("b", v(4)))))))), sum(kase("A", sum(kase("A", v(0)))), kase("B", v(0))),
		// what is outside may stand anywhere
		sum(kase("A", arrow(v(2), all(v(3))))), sum(kase("A", app(v(1), v(2))), kase("B", v(0))), sum(kase("A", sum(kase("A", v(3))))), sum(kase("A", rec(field("a", app(v(1), arrow(v(2), i))), field("b", v(0))))), sum(kase("A", all(all(v(4))))),
	}
	deep := v(0)
	for range 1000 {
		deep = rec(field("a", deep), field("b", v(0)))
	}
	return append(l, sum(kase("A", deep)))
}

// misfit tells sums that don't fit, but whose parts have kinds where the variable 0 outside takes a type.
func misfit() []*api.Node {
	i := num()
	return []*api.Node{
		// in an arrow, on either side
		sum(kase("F", arrow(v(0), i))), sum(kase("F", arrow(i, v(0)))), sum(kase("F", arrow(v(0), v(0)))), sum(kase("F", arrow(i, arrow(i, v(0))))), sum(kase("F", rec(field("a", arrow(i, v(0)))))), sum(kase("F", arrow(i, rec(field("a", v(0)))))), sum(kase("F", rec(field("a", v(0)), field("b", arrow(rec(field("a", v(0))), i))))),
		// in another sum
		sum(kase("A", sum(kase("A", v(1))))), sum(kase("A", sum(kase("A", v(0)), kase("B", v(1))))), sum(kase("A", rec(field("a", sum(kase("A", v(1))))))), sum(kase("A", sum(kase("A", rec(field("a", v(1))))))), sum(kase("A", sum(kase("A", sum(kase("A", v(2))))))),
		// under a binder
		sum(kase("A", all(v(1)))), sum(kase("A", ex(v(1)))), sum(kase("A", all(rec(field("a", v(1)))))), sum(kase("A", ex(all(v(2))))), sum(kase("A", fnOf(v(0)))), sum(kase("A", app(fn(v(1)), i))), sum(kase("A", rec(field("a", all(v(1)))))),
		// handed to a function
		sum(kase("A", app(v(1), v(0)))), sum(kase("A", rec(field("a", app(v(1), v(0)))))), sum(kase("A", app(v(1), rec(field("a", v(0)))))),
		// in one case, or one place, of several
		sum(kase("A", v(0)), kase("B", arrow(v(0), i))), sum(kase("A", arrow(v(0), i)), kase("B", v(0))), sum(kase("A", i), kase("B", all(v(1))), kase("C", v(0))), sum(kase("A", rec(field("a", v(0)), field("b", v(0)), field("c", arrow(i, v(0)))))),
	}
}

// fit asks Fits.
func fit(t *testing.T, n *api.Node, want api.Errno) {
	t.Helper()
	if e := kinding.Fits(n); e != want {
		t.Errorf("Fits(%.300s) = %d, not %d", ctor.Show(n), int(e), int(want))
	}
}

// stars asks Star.
func stars(t *testing.T, ctx []*api.Node, n *api.Node, want api.Errno) {
	t.Helper()
	if e := kinding.Star(ctx, n); e != want {
		t.Errorf("Star(%.300s, %.300s) = %d, not %d", texts(ctx), ctor.Show(n), int(e), int(want))
	}
}

func TestFits(t *testing.T) {
	for _, n := range fitting() {
		fit(t, n, api.OK)
		fit(t, sum(kase("B", outside(n, 1)), kase("A", v(0))), api.OK)
	}
	for _, n := range misfit() {
		fit(t, n, api.ErrRec)
	}
	list := sum(kase("N", leaf(api.CUnit)), kase("C", rec(field("1", num()), field("2", v(0)))))
	fit(t, list, api.OK)
	fit(t, sum(kase("F", arrow(v(0), num()))), api.ErrRec)
}

// Of another sum within, and of kinds, Fits asks nothing.
func TestFitsAsksOfTheSumItselfAlone(t *testing.T) {
	for _, n := range misfit() {
		n = outside(n, 1)
		fit(t, sum(kase("A", n)), api.OK)
		fit(t, sum(kase("A", v(0)), kase("B", rec(field("a", n)))), api.OK)
		fit(t, sum(kase("A", n), kase("B", arrow(v(0), num()))), api.ErrRec)
	}
	for _, n := range []*api.Node{sum(kase("A", fn(v(0)))), sum(kase("A", v(65536))), sum(kase("A", app(num(), num()))), sum(kase("A", arrow(fn(num()), v(1))), kase("B", v(0))), sum(kase("A", rec(field("a", fn(num())), field("b", v(0)))))} {
		fit(t, n, api.OK)
	}
	for _, n := range []*api.Node{sum(kase("A", fn(v(1)))), sum(kase("A", app(v(0), num()))), sum(kase("A", app(num(), v(0))))} {
		fit(t, n, api.ErrRec)
	}
}

func TestFitsOfWhatIsNoSum(t *testing.T) {
	for _, n := range []*api.Node{v(0), num(), leaf(api.CBool), leaf(api.CUnit), rec(), rec(field("a", sum(kase("A", v(0))))), fn(sum(kase("A", v(0)))), all(sum(kase("A", arrow(v(0), num())))), ex(v(0)), arrow(sum(kase("A", num())), sum(kase("A", num()))), app(sum(kase("A", num())), num())} {
		fit(t, n, api.ErrForm)
	}
	for n, e := range refused() {
		fit(t, n, e)
		fit(t, sum(kase("A", n)), e)
		fit(t, sum(kase("A", arrow(v(0), v(0))), kase("B", n)), e)
	}
}

func TestFitsOfManyConstructors(t *testing.T) {
	t.Parallel()
	ask := func(n *api.Node) {
		for _, m := range []*api.Node{n, sum(kase("A", n)), sum(kase("B", rec(field("a", v(0)), field("b", n))), kase("A", num())), sum(kase("A", arrow(n, num()))), sum(kase("A", sum(kase("A", n)))), sum(kase("A", all(n)))} {
			if e, want := kinding.Fits(m), fitsOf(m); e != want {
				t.Fatalf("Fits(%.300s) = %d, not %d", ctor.Show(m), int(e), int(want))
			}
		}
	}
	for _, n := range small() {
		ask(n)
	}
	made(3000, 40, func(r maker, _ []*api.Node, _, n *api.Node) {
		ask(n)
		ask(r.broken(n))
	})
}

func TestStar(t *testing.T) {
	ctx := []*api.Node{one(), star(), kfn(one(), star())}
	for _, n := range []*api.Node{num(), v(1), rec(), arrow(v(1), num()), app(v(0), num()), app(v(2), v(0)), all(v(0)), ex(v(2)), sum(kase("A", v(0))), app(fn(v(0)), num())} {
		stars(t, ctx, n, api.OK)
	}
	for _, n := range []*api.Node{v(0), v(2), fn(v(0)), fn(num()), tree(api.CLam, one(), v(0)), app(fn(v(1)), num()), app(fn(fn(v(0))), num())} {
		stars(t, ctx, n, api.ErrKind)
	}
	stars(t, ctx, v(3), api.ErrName)
	stars(t, ctx, fn(v(4)), api.ErrName)
	stars(t, ctx, app(num(), num()), api.ErrKind)
	stars(t, ctx, fn(arrow(v(0), v(1))), api.ErrKind)
	stars(t, ctx, sum(kase("A", arrow(v(0), num()))), api.ErrRec)
	stars(t, ctx, fn(sum(kase("A", arrow(v(0), num())))), api.ErrRec)
	stars(t, nil, num(), api.OK)
	stars(t, nil, v(0), api.ErrName)
	stars(t, nil, star(), api.ErrForm)
	stars(t, nil, nil, api.ErrNil)
	for _, k := range kinds() {
		want := api.ErrKind
		if k.Kind == api.KStar {
			want = api.OK
		}
		stars(t, []*api.Node{k}, v(0), want)
		stars(t, []*api.Node{star(), k}, v(1), want)
	}
}
