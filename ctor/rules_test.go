package ctor_test

import (
	"math"
	"slices"
	"testing"

	"marquetry/api"
	"marquetry/arena"
	"marquetry/ctor"
)

// Rules 1 and 4.

// asksAll asks all calls of two trees.
func asksAll(n, by *api.Node) {
	for _, x := range []int{-1, 0, 1, 2, math.MaxInt, math.MinInt} {
		ctor.Shift(n, x, 0)
		ctor.Shift(n, x, 1)
		ctor.Shift(n, 1, x)
		ctor.Subst(n, x, by)
		ctor.Subst(by, x, n)
		ctor.Occurs(n, x)
	}
	ctor.Check(n)
	ctor.Kind(n)
	ctor.Free(n)
	ctor.Show(n)
}

func TestWhatIsHandedInStaysAsItWas(t *testing.T) {
	l := []*api.Node{richCon(), guarded(richCon()), guarded(kind(4)), shared(9, all(v(1))), guarded(sum(kase("A", nil))), knot(5), guarded(full(15, v(0), arrow(v(0), v(0))))}
	for _, s := range samples() {
		for _, n := range s {
			l = append(l, guarded(n))
		}
	}
	for _, n := range slices.Concat(l, nested()) {
		by := guarded(all(arrow(v(0), app(v(1), v(2)))))
		kept, same := freeze(n), freeze(by)
		asksAll(n, by)
		if !kept() || !same() {
			t.Fatal(ctor.Show(n))
		}
	}
}

// What lies behind a list's length is no kid, and what is made anew has none of it.
func TestNothingBehindALengthIsRead(t *testing.T) {
	for _, n := range slices.Concat(smallCons(), nested(), []*api.Node{richCon()}) {
		g := guarded(n)
		by := guarded(all(arrow(v(0), v(1))))
		a, e := ctor.Shift(n, 2, 1)
		b, f := ctor.Shift(g, 2, 1)
		c, h := ctor.Subst(n, 1, all(arrow(v(0), v(1))))
		d, k := ctor.Subst(g, 1, by)
		if e != f || h != k || !arena.Same(a, b) || !arena.Same(c, d) || ctor.Show(n) != ctor.Show(g) || ctor.Free(n) != ctor.Free(g) || ctor.Check(g) != api.OK {
			t.Fatal(ctor.Show(n))
		}
	}
	m, _ := ctor.Shift(guarded(arrow(v(0), v(1))), 1, 0)
	if behind := m.Kids[:cap(m.Kids)][len(m.Kids):]; slices.ContainsFunc(behind, func(k *api.Node) bool { return k != nil }) {
		t.Error("what lies behind is handed out")
	}
}

// What is asked twice is answered twice alike.
func TestAnswersHangOnArgumentsAlone(t *testing.T) {
	for _, n := range nested() {
		a, e := ctor.Subst(n, 1, all(v(1)))
		asksAll(n, v(3))
		b, f := ctor.Subst(n, 1, all(v(1)))
		if e != f || !arena.Same(a, b) {
			t.Fatal(ctor.Show(n))
		}
	}
}

// A node at two places counts, and is changed, once for each place, by what lies around it there.
func TestOneNodeAtTwoPlaces(t *testing.T) {
	x := arrow(v(0), v(1))
	n := arrow(x, all(arrow(x, all(x))))
	shifts(t, n, 3, 0, arrow(arrow(v(3), v(4)), all(arrow(arrow(v(0), v(4)), all(x)))), api.OK)
	makes(t, n, 0, v(0), arrow(arrow(v(0), v(0)), all(arrow(arrow(v(0), v(1)), all(x)))), api.OK)
	if ctor.Free(n) != 2 || !ctor.Occurs(n, 0) || !ctor.Occurs(n, 1) || ctor.Occurs(n, 2) {
		t.Error(ctor.Free(n))
	}
	makes(t, x, 0, x, arrow(x, v(0)), api.OK)
}

// Of trees that lie in themselves no more is promised than that each call ends.
func TestCallsEndOnTreesThatLieInThemselves(t *testing.T) {
	for _, n := range []*api.Node{knot(0), knot(1), knot(7), knot(1000), arrow(knot(3), nil), all(knot(2)), sum(kase("A", knot(1)))} {
		for _, by := range []*api.Node{n, knot(2), v(0)} {
			asksAll(n, by)
		}
		if ctor.Check(n) == api.OK || ctor.Kind(n) == api.OK {
			t.Error("a constructor")
		}
	}
}

// Trees of few nodes at very many places are answered for without going to each place.
func TestFewNodesAtVeryManyPlaces(t *testing.T) {
	for _, deep := range []int{40, 62, 63, 64, 200, 5000} {
		n := shared(deep, v(0))
		asksAll(n, n)
		isNone(t, n, api.ErrLong)
	}
}
