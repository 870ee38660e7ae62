package kinding_test

import (
	"slices"
	"testing"

	"marquetry/api"
	"marquetry/ctor"
	"marquetry/kinding"
)

// P12.1, of what may be asked.

// has asks for an answer that is written here; a nil is none.
func has(t *testing.T, ctx []*api.Node, n, want *api.Node, wantE api.Errno) {
	t.Helper()
	if k, e := kinding.Kind(ctx, n); e != wantE || text(k) != text(want) {
		t.Errorf("Kind(%.300s, %.300s) = %.300s, %d, not %.300s, %d", texts(ctx), ctor.Show(n), text(k), int(e), text(want), int(wantE))
	}
}

// fails asks for an error.
func fails(t *testing.T, ctx []*api.Node, n *api.Node, want api.Errno) {
	t.Helper()
	has(t, ctx, n, nil, want)
}

// isType asks whether a constructor has KStar.
func isType(t *testing.T, ctx []*api.Node, n *api.Node) {
	t.Helper()
	has(t, ctx, n, star(), api.OK)
}

// agrees holds Kind and Star against the oracle.
func agrees(t *testing.T, ctx []*api.Node, n *api.Node) api.Errno {
	t.Helper()
	want, wantE := kindOf(texts(ctx), n)
	if k, e := kinding.Kind(ctx, n); e != wantE || text(k) != want {
		t.Fatalf("Kind(%s, %.600s) = %s, %d, not %s, %d", texts(ctx), ctor.Show(n), text(k), int(e), want, int(wantE))
	}
	starE := wantE
	if want != "*" && wantE == api.OK {
		starE = api.ErrKind
	}
	if e := kinding.Star(ctx, n); e != starE {
		t.Fatalf("Star(%s, %.600s) = %d, not %d", texts(ctx), ctor.Show(n), int(e), int(starE))
	}
	return wantE
}

func TestLeaves(t *testing.T) {
	for _, ctx := range contexts() {
		isType(t, ctx, num())
		isType(t, ctx, leaf(api.CBool))
		isType(t, ctx, leaf(api.CUnit))
		isType(t, ctx, rec())
		for i, k := range ctx {
			has(t, ctx, v(i), k, api.OK)
		}
		for _, i := range []int{len(ctx), len(ctx) + 1, 65535, 65536} {
			fails(t, ctx, v(i), api.ErrName)
		}
	}
}

func TestArrowsAndRecords(t *testing.T) {
	ctx := []*api.Node{star(), one(), star()}
	i := num()
	for _, n := range []*api.Node{
		arrow(i, leaf(api.CBool)), arrow(v(0), v(2)), arrow(arrow(i, v(0)), arrow(rec(), i)), arrow(app(v(1), v(0)), i), arrow(all(v(0)), ex(v(1))),
		rec(field("a", i)), rec(field("a", v(0)), field("b", i), field("c", app(v(1), i))), rec(field("a", rec(field("a", rec(field("a", v(2))))))), rec(field("v:x", arrow(v(2), v(0)))),
	} {
		isType(t, ctx, n)
	}
	for _, n := range []*api.Node{
		arrow(i, fn(v(0))), arrow(fn(v(0)), i), arrow(v(1), i), arrow(i, v(1)), arrow(v(1), v(1)), arrow(arrow(i, v(1)), i), arrow(i, arrow(v(1), i)),
		rec(field("a", v(1))), rec(field("a", i), field("b", v(1))), rec(field("a", v(1)), field("b", i)), rec(field("a", i), field("b", fn(i)), field("c", i)), rec(field("a", rec(field("a", v(1))))),
	} {
		fails(t, ctx, n, api.ErrKind)
	}
	isType(t, nil, row(32000, i))
	fails(t, nil, arrow(row(32000, i), fn(i)), api.ErrKind)
}

func TestQuantifiers(t *testing.T) {
	ctx := []*api.Node{one(), star()}
	for _, kind := range []int{api.CAll, api.CEx} {
		of := func(k, n *api.Node) *api.Node { return tree(kind, k, n) }
		isType(t, nil, of(star(), v(0)))
		isType(t, nil, of(one(), app(v(0), num())))
		isType(t, nil, of(kfn(one(), star()), app(v(0), fn(v(0)))))
		isType(t, nil, of(one(), of(star(), app(v(1), v(0)))))
		isType(t, nil, of(star(), of(one(), app(v(0), v(1)))))
		isType(t, ctx, of(star(), app(v(1), arrow(v(0), v(2)))))
		isType(t, ctx, of(one(), arrow(app(v(0), v(2)), app(v(1), v(2)))))
		isType(t, ctx, of(one(), num()))
		isType(t, ctx, of(one(), v(2)))
		fails(t, nil, of(one(), v(0)), api.ErrKind)
		fails(t, nil, of(star(), app(v(0), num())), api.ErrKind)
		fails(t, ctx, of(star(), v(1)), api.ErrKind)
		fails(t, ctx, of(star(), fn(v(0))), api.ErrKind)
		fails(t, ctx, of(one(), of(star(), app(v(0), v(1)))), api.ErrKind)
		fails(t, nil, of(star(), v(1)), api.ErrName)
		fails(t, ctx, of(star(), v(3)), api.ErrName)
	}
}

func TestFunctions(t *testing.T) {
	lam := func(k, n *api.Node) *api.Node { return tree(api.CLam, k, n) }
	ctx := []*api.Node{one(), star()}
	has(t, nil, fn(arrow(v(0), v(0))), one(), api.OK)
	has(t, nil, fn(num()), one(), api.OK)
	has(t, nil, fn(fn(arrow(v(0), v(1)))), kfn(star(), star(), star()), api.OK)
	has(t, nil, lam(one(), app(v(0), num())), kfn(one(), star()), api.OK)
	has(t, nil, lam(one(), v(0)), kfn(one(), one()), api.OK)
	has(t, nil, lam(one(), fn(app(v(1), v(0)))), kfn(one(), one()), api.OK)
	has(t, nil, lam(one(), fn(v(1))), kfn(one(), star(), one()), api.OK)
	has(t, nil, lam(one(), fn(v(0))), kfn(one(), star(), star()), api.OK)
	has(t, nil, lam(kfn(one(), star()), lam(one(), app(v(1), v(0)))), kfn(kfn(one(), star()), one(), star()), api.OK)
	has(t, ctx, fn(v(1)), kfn(star(), one()), api.OK)
	has(t, ctx, fn(v(2)), one(), api.OK)
	has(t, ctx, fn(app(v(1), v(0))), one(), api.OK)
	has(t, ctx, lam(one(), v(2)), kfn(one(), star()), api.OK)
	for _, k := range kinds() {
		for _, l := range kinds() {
			has(t, []*api.Node{l}, lam(k, v(1)), kfn(k, l), api.OK)
			has(t, []*api.Node{l}, lam(k, v(0)), kfn(k, k), api.OK)
			has(t, []*api.Node{l}, lam(k, fn(v(2))), kfn(k, star(), l), api.OK)
			fails(t, []*api.Node{l}, lam(k, v(2)), api.ErrName)
		}
	}
	fails(t, nil, fn(v(1)), api.ErrName)
	fails(t, nil, fn(arrow(fn(v(0)), v(0))), api.ErrKind)
}

// A function may be handed just what has the kind that it takes.
func TestApplications(t *testing.T) {
	for _, k := range kinds() {
		for _, l := range kinds() {
			for _, m := range kinds() {
				ctx := []*api.Node{kfn(k, l), m}
				if text(k) == text(m) {
					has(t, ctx, app(v(0), v(1)), l, api.OK)
					has(t, ctx, app(tree(api.CLam, k, app(v(1), v(0))), v(1)), l, api.OK)
				} else {
					fails(t, ctx, app(v(0), v(1)), api.ErrKind)
					fails(t, ctx, app(tree(api.CLam, k, app(v(1), v(0))), v(1)), api.ErrKind)
				}
			}
		}
	}
	ctx := []*api.Node{star(), kfn(star(), star(), star()), kfn(one(), star())}
	isType(t, ctx, app(v(1), v(0), num()))
	has(t, ctx, app(v(1), v(0)), one(), api.OK)
	isType(t, ctx, app(v(2), app(v(1), v(0))))
	isType(t, ctx, app(v(2), fn(app(v(2), v(0), v(0)))))
	isType(t, ctx, app(fn(v(0)), app(fn(v(0)), num())))
	for _, n := range []*api.Node{
		app(num(), num()), app(v(0), num()), app(v(0), v(0)), app(v(1), v(1)), app(v(1), v(2)), app(v(1), v(0), v(0), v(0)), app(v(2), v(0)), app(v(2), v(1)), app(v(2), app(v(2), app(v(1), v(0)))),
		app(arrow(v(0), v(0)), v(0)), app(all(v(0)), num()), app(ex(v(0)), num()), app(rec(field("a", fn(v(0)))), num()), app(rec(), num()), app(sum(kase("A", num())), num()), app(fn(v(0)), fn(v(0))), app(fn(v(0)), v(1)), app(fn(num()), num(), num()),
	} {
		fails(t, ctx, n, api.ErrKind)
	}
}

func TestSums(t *testing.T) {
	ctx := []*api.Node{one(), star()}
	isType(t, nil, sum(kase("A", num())))
	isType(t, nil, sum(kase("N", leaf(api.CUnit)), kase("C", rec(field("1", num()), field("2", v(0))))))
	isType(t, nil, sum(kase("A", v(0))))
	isType(t, nil, sum(kase("B", all(v(0))), kase("A", fnOf(num()))))
	isType(t, nil, arrow(sum(kase("A", v(0))), num()))
	isType(t, ctx, sum(kase("A", v(2)), kase("B", app(v(1), v(2)))))
	isType(t, ctx, sum(kase("A", rec(field("a", app(v(1), num())), field("b", v(0))))))
	isType(t, ctx, fnOf(sum(kase("A", v(2)), kase("B", v(0)))))
	for _, n := range []*api.Node{
		sum(kase("A", v(1))), sum(kase("A", fn(v(0)))), sum(kase("A", num()), kase("B", v(1))), sum(kase("A", v(1)), kase("B", v(0))), sum(kase("A", num()), kase("B", fn(num())), kase("C", num())),
		sum(kase("A", rec(field("a", v(1))))), sum(kase("A", app(v(1), v(1)))), sum(kase("A", app(v(2), v(2)))),
	} {
		fails(t, ctx, n, api.ErrKind)
	}
	for i := range 3 {
		fails(t, ctx[:i], sum(kase("A", v(i+1))), api.ErrName)
		fails(t, ctx[:i], sum(kase("A", num()), kase("B", v(i+1))), api.ErrName)
	}
}

// fnOf is what a function makes of a type, as which it stands there.
func fnOf(n *api.Node) *api.Node { return app(fn(v(0)), n) }

// A variable means what so many binders away stands, whatever kinds of binders they are.
func TestVariablesBelowBinders(t *testing.T) {
	ctx := []*api.Node{one(), kfn(one(), one()), star()}
	binders := []struct {
		kind *api.Node
		of   func(n *api.Node) *api.Node
	}{
		{star(), all}, {one(), func(n *api.Node) *api.Node { return tree(api.CEx, one(), n) }}, {kfn(one(), one()), func(n *api.Node) *api.Node { return tree(api.CAll, kfn(one(), one()), n) }}, {star(), func(n *api.Node) *api.Node { return sum(kase("A", n)) }},
	}
	asType := func(k *api.Node, n *api.Node) *api.Node { // a type that can be told just of what has the kind
		return app(tree(api.CLam, k, num()), n)
	}
	for row := range 4 * 4 * 4 * 4 {
		around := slices.Clone(ctx)
		var wraps []func(n *api.Node) *api.Node
		for x := row; x > 0; x /= 4 {
			around = slices.Insert(around, 0, binders[x%4].kind)
			wraps = append(wraps, binders[x%4].of)
		}
		for i := range len(around) + 2 {
			for _, k := range kinds() {
				n := asType(k, v(i))
				for _, of := range slices.Backward(wraps) {
					n = of(n)
				}
				agrees(t, ctx, n)
			}
		}
		for i, k := range around {
			n := asType(k, v(i))
			fit := true
			for at, of := range slices.Backward(wraps) {
				n = of(n)
				fit = fit && !(n.Kind == api.CSum && i == len(wraps)-1-at)
			}
			if fit {
				isType(t, ctx, n)
			} else {
				fails(t, ctx, n, api.ErrRec)
			}
		}
	}
}

// Each pair of errors, in each kind of constructor that has two parts.
func TestTheLeftErrorIsTold(t *testing.T) {
	wrong := map[api.Errno][]*api.Node{
		api.ErrName: {v(9), arrow(num(), v(9)), all(v(10)), arrow(v(9), fn(num()))},
		api.ErrKind: {arrow(num(), fn(v(0))), app(num(), num()), all(fn(v(1))), sum(kase("A", fn(num())))},
		api.ErrRec:  {sum(kase("A", arrow(v(0), num()))), all(sum(kase("A", all(v(1))))), arrow(sum(kase("A", sum(kase("A", v(1))))), num())},
	}
	ctx := []*api.Node{one()}
	two := func(a, b *api.Node) []*api.Node {
		return []*api.Node{arrow(a, b), app(a, b), rec(field("a", a), field("b", b)), rec(field("a", num()), field("b", a), field("c", num()), field("d", b), field("e", num())), sum(kase("B", a), kase("A", b)), sum(kase("A", v(0)), kase("B", a), kase("0", b))}
	}
	for e, l := range wrong {
		for _, a := range l {
			for _, f := range wrong {
				for _, b := range slices.Concat(f, []*api.Node{num(), fn(num()), v(0)}) {
					for _, n := range two(a, b) {
						fails(t, ctx, n, e)
						agrees(t, ctx, n)
						fails(t, ctx, arrow(num(), fn(n)), e)
						fails(t, ctx, app(fn(v(0)), rec(field("a", n))), e)
					}
				}
			}
			for _, n := range two(num(), a) {
				fails(t, ctx, n, e)
			}
		}
	}
}

// What a part tells comes ahead of what is wrong with the constructor, though what is wrong lies further left.
func TestAPartsErrorIsToldAhead(t *testing.T) {
	ctx := []*api.Node{one()}
	f := fn(v(0))
	bad := sum(kase("A", arrow(v(0), num())))
	for _, x := range []struct {
		part *api.Node
		e    api.Errno
	}{{v(9), api.ErrName}, {bad, api.ErrRec}} {
		for _, n := range []*api.Node{
			arrow(f, x.part), arrow(v(0), x.part), arrow(f, arrow(f, x.part)), app(num(), x.part), app(f, app(num(), x.part)), app(x.part, num()),
			rec(field("a", f), field("b", x.part)), rec(field("a", f), field("b", num()), field("c", x.part)), rec(field("a", rec(field("a", f), field("b", x.part)))),
			sum(kase("A", fn(v(0))), kase("B", x.part)), sum(kase("A", arrow(v(0), num())), kase("B", x.part)), sum(kase("A", x.part), kase("B", arrow(v(0), v(0)))), sum(kase("A", rec(field("a", fn(v(0))), field("b", x.part)))),
			all(fn(x.part)), ex(fn(x.part)), fn(arrow(f, x.part)), all(arrow(f, x.part)),
		} {
			fails(t, ctx, n, x.e)
		}
	}
	// a sum is asked for its cases' kinds ahead of whether it fits
	for _, n := range []*api.Node{
		sum(kase("A", arrow(v(0), num())), kase("B", fn(num()))), sum(kase("A", fn(num())), kase("B", arrow(v(0), num()))), sum(kase("A", fn(v(1)))), sum(kase("A", rec(field("a", all(v(1))), field("b", fn(num()))))), sum(kase("A", app(v(0), num()))), sum(kase("A", app(v(1), v(1)))), sum(kase("A", tree(api.CAll, one(), v(1))), kase("B", v(1))),
	} {
		fails(t, ctx, n, api.ErrKind)
	}
	fails(t, ctx, sum(kase("A", arrow(v(0), v(0))), kase("B", v(9))), api.ErrName)
	fails(t, ctx, arrow(arrow(f, num()), v(9)), api.ErrKind)
	fails(t, ctx, arrow(app(f, f), bad), api.ErrKind)
}

func TestMisfitsHaveNoKind(t *testing.T) {
	ctx := []*api.Node{one(), star()}
	for _, n := range misfit() {
		fails(t, ctx, n, api.ErrRec)
		fails(t, ctx, arrow(num(), n), api.ErrRec)
		fails(t, ctx, sum(kase("A", v(0)), kase("B", rec(field("a", outside(n, 1))))), api.ErrRec)
	}
	for _, n := range fitting() {
		isType(t, ctx, n)
		isType(t, ctx, sum(kase("A", v(0)), kase("B", rec(field("a", outside(n, 1))))))
		fails(t, ctx, sum(kase("A", arrow(v(0), outside(n, 1)))), api.ErrRec)
	}
	// the sum in the middle is it that doesn't fit
	fails(t, nil, sum(kase("A", sum(kase("A", sum(kase("A", v(1))))))), api.ErrRec)
	fails(t, nil, sum(kase("A", rec(field("a", sum(kase("A", arrow(v(0), num())))), field("b", v(0))))), api.ErrRec)
}

func TestKindsOfManyConstructors(t *testing.T) {
	t.Parallel()
	met := map[api.Errno]int{}
	for _, n := range small() {
		for _, ctx := range contexts() {
			met[agrees(t, ctx, n)]++
		}
	}
	for _, e := range []api.Errno{api.OK, api.ErrName, api.ErrKind, api.ErrRec} {
		if met[e] < 200 {
			t.Error("too few of", int(e), met[e])
		}
	}
}

func TestKindsOfWhatWasMadeToHaveOne(t *testing.T) {
	t.Parallel()
	met := map[api.Errno]int{}
	made(5000, 60, func(r maker, ctx []*api.Node, k, n *api.Node) {
		has(t, ctx, n, k, api.OK)
		agrees(t, ctx, n)
		for range 3 {
			n = r.broken(n)
			met[agrees(t, ctx, n)]++
		}
	})
	for _, e := range []api.Errno{api.OK, api.ErrName, api.ErrKind, api.ErrRec} {
		if met[e] < 200 {
			t.Error("too few of", int(e), met[e])
		}
	}
}
