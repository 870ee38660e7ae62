package kinding_test

import (
	"slices"
	"testing"

	"marquetry/api"
	"marquetry/arena"
	"marquetry/ctor"
	"marquetry/kinding"
)

// Rules 1, 3, 4 and 6.

// asksAll asks all calls of a context and a tree.
func asksAll(ctx []*api.Node, n *api.Node) {
	kinding.Kind(ctx, n)
	kinding.Star(ctx, n)
	kinding.Fits(n)
}

func TestWhatIsHandedInStaysAsItWas(t *testing.T) {
	l := []*api.Node{knot(5), shared(40, api.CArrow, num()), shared(12, api.CArrow, v(0))}
	for _, n := range slices.Concat(small(), fitting(), misfit()) {
		l = append(l, guarded(n))
	}
	for n := range little(refused()) {
		l = append(l, guarded(n))
	}
	all := [][]*api.Node{{knotKind(3)}, {star(), num(), v(3)}}
	for _, ctx := range contexts() {
		all = append(all, guardedList(ctx))
	}
	for k := range little(noKinds()) {
		all = append(all, guardedList([]*api.Node{star(), k, one()}))
	}
	for i, n := range l {
		for k := range 3 {
			ctx := all[(i+k)%len(all)]
			list := slices.Clone(ctx[:cap(ctx)])
			kept, same := freeze(n), freeze(list...)
			asksAll(ctx, n)
			if !kept() || !same() || !slices.Equal(ctx[:cap(ctx)], list) {
				t.Fatal(ctor.Show(n), texts(ctx))
			}
		}
	}
}

// What lies behind a list's length is no kind, and no kid.
func TestNothingBehindALengthIsRead(t *testing.T) {
	for _, n := range slices.Concat(small(), fitting(), misfit()) {
		g := guarded(n)
		for _, ctx := range contexts() {
			a, e := kinding.Kind(ctx, n)
			b, f := kinding.Kind(guardedList(ctx), g)
			if e != f || !arena.Same(a, b) || kinding.Star(ctx, n) != kinding.Star(guardedList(ctx), g) {
				t.Fatal(ctor.Show(n), texts(ctx))
			}
		}
		if kinding.Fits(n) != kinding.Fits(g) {
			t.Fatal(ctor.Show(n))
		}
	}
	fails(t, []*api.Node{one(), star(), star()}[:1], v(1), api.ErrName)
	fails(t, []*api.Node{star()}[:0], v(0), api.ErrName)
	isType(t, []*api.Node{star(), nil, num()}[:1], v(0))
	k, e := kinding.Kind(guardedList([]*api.Node{one()}), guarded(fn(v(1))))
	if e != api.OK || cap(k.Kids) > len(k.Kids) && slices.ContainsFunc(k.Kids[:cap(k.Kids)][len(k.Kids):], func(x *api.Node) bool { return x != nil }) {
		t.Error("what lies behind is handed out")
	}
}

// What is asked twice is answered twice alike, and of what was answered nothing is changed by what is asked later.
func TestAnswersHangOnArgumentsAlone(t *testing.T) {
	for _, n := range small() {
		for _, ctx := range contexts() {
			a, e := kinding.Kind(ctx, n)
			kept := freeze(a)
			asksAll(ctx, n)
			asksAll(nil, n)
			asksAll(kinds(), n)
			b, f := kinding.Kind(ctx, n)
			if !kept() || e != f || !arena.Same(a, b) {
				t.Fatal(ctor.Show(n), texts(ctx))
			}
		}
	}
}

// A tree that is the same has the same kind, also if its nodes are others.
func TestWhatIsTheSameHasTheSameKind(t *testing.T) {
	for _, n := range slices.Concat(small(), fitting(), misfit()) {
		for _, ctx := range contexts() {
			k, e := kinding.Kind(ctx, n)
			has(t, ctx, arena.Copy(n), k, e)
		}
		fit(t, arena.Copy(n), kinding.Fits(n))
	}
}

// One node at several places means at each what stands around it there.
func TestOneNodeAtTwoPlaces(t *testing.T) {
	x, k := v(0), star()
	isType(t, []*api.Node{k, k}, arrow(x, tree(api.CAll, k, arrow(x, tree(api.CEx, k, x)))))
	fails(t, []*api.Node{one()}, arrow(all(x), x), api.ErrKind)
	fails(t, []*api.Node{one()}, arrow(x, all(x)), api.ErrKind)
	isType(t, []*api.Node{star()}, arrow(x, sum(kase("A", x), kase("B", rec(field("a", x))))))
	fails(t, []*api.Node{star()}, arrow(x, sum(kase("A", x), kase("B", arrow(x, x)))), api.ErrRec)
	// a sum that is one node, with a variable that is another one's where it stands again
	y := v(1)
	inner := sum(kase("A", y))
	isType(t, []*api.Node{star(), star()}, arrow(inner, inner))
	fails(t, []*api.Node{star(), star()}, arrow(inner, sum(kase("A", inner))), api.ErrRec)
	fails(t, []*api.Node{star(), star()}, arrow(sum(kase("A", inner)), inner), api.ErrRec)
	fails(t, []*api.Node{one(), star()}, arrow(all(inner), inner), api.ErrKind)
	fails(t, []*api.Node{one(), star()}, arrow(all(inner), arrow(num(), inner)), api.ErrKind)
	bad := sum(kase("A", arrow(x, x)))
	fails(t, nil, arrow(num(), arrow(bad, bad)), api.ErrRec)
	fit(t, bad, api.ErrRec)
	fit(t, sum(kase("A", bad)), api.OK)
}

// Of trees that lie in themselves no more is promised than that each call ends.
func TestCallsEndOnTreesThatLieInThemselves(t *testing.T) {
	for _, n := range []*api.Node{knot(0), knot(1), knot(7), knot(1000), arrow(knot(3), nil), all(knot(2)), sum(kase("A", knot(1))), app(fn(knot(1)), num())} {
		for _, ctx := range contexts() {
			asksAll(ctx, n)
		}
		asksAll([]*api.Node{n}, num())
		if _, e := kinding.Kind(nil, n); e == api.OK {
			t.Error("a constructor")
		}
	}
	for _, deep := range []int{0, 1, 7, 1000} {
		both(t, []*api.Node{knotKind(deep)}, num(), api.ErrArg)
		asksAll([]*api.Node{kfn(knotKind(deep), nil), knotKind(deep)}, knot(deep))
	}
}

// Binders above one another, as many as may be, and a context of very many kinds: none of it is copied for each binder.
func TestManyBindersAndAGreatContext(t *testing.T) {
	ctx := slices.Repeat([]*api.Node{star()}, 300000)
	n := v(40000)
	for i := range 32767 {
		n = []*api.Node{all(n), sum(kase("A", n)), ex(n)}[i%3]
	}
	isType(t, ctx, n)
	fails(t, ctx[:40000-32767], n, api.ErrName)
	isType(t, ctx[:40000-32766], n)
	n = v(1)
	for range 32767 {
		n = sum(kase("A", n))
	}
	fails(t, ctx, n, api.ErrRec)
	fit(t, n, api.OK)
	n = v(0)
	for range 32767 {
		n = fn(n)
	}
	k, e := kinding.Kind(nil, n)
	for range 32767 {
		if e != api.OK || k.Kind != api.KArrow || k.Kids[0].Kind != api.KStar {
			t.Fatal(int(e))
		}
		k = k.Kids[1]
	}
	if k.Kind != api.KStar {
		t.Error("another kind")
	}
}

// Many variables that stand far below what binds them.
func TestManyVariablesFarBelowTheirBinders(t *testing.T) {
	n := row(10000, v(9999))
	for range 10000 {
		n = all(n)
	}
	isType(t, nil, n)
	n = row(9000, v(10000))
	for range 9999 {
		n = all(n)
	}
	fails(t, nil, sum(kase("A", n)), api.ErrName)
	fails(t, nil, sum(kase("A", all(n))), api.ErrRec)
	isType(t, nil, all(all(n)))
}

// A function of a great kind, handed over and over what it makes.
func TestManyApplications(t *testing.T) {
	k := long(2001)
	n := v(1)
	for range 5000 {
		n = app(v(0), n)
	}
	has(t, []*api.Node{kfn(long(2001), long(2001)), long(2001)}, n, k, api.OK)
	fails(t, []*api.Node{kfn(long(2001), long(2001)), long(1999)}, n, api.ErrKind)
	n = v(0)
	for range 32767 {
		n = app(n, num())
	}
	isType(t, []*api.Node{long(65535)}, n)
	fails(t, []*api.Node{long(65533)}, n, api.ErrKind)
}
