package norm_test

import (
	"slices"
	"testing"

	"marquetry/api"
	"marquetry/arena"
	"marquetry/ctor"
	"marquetry/norm"
)

// Rules 1, 3, 4 and 6.

// asksAll asks all calls of two trees.
func asksAll(a, b *api.Node) {
	norm.Step(a)
	norm.Normal(a)
	norm.Equal(a, b)
	norm.Equal(b, a)
}

func TestWhatIsHandedInStaysAsItWas(t *testing.T) {
	l := []*api.Node{knot(5), shared(40)}
	for _, n := range slices.Concat(plain(), small(), randoms(300, 40), []*api.Node{omega(), ids(100, num()), app(twice(), padded(32767, num())), app(fn(all(v(1))), v(65536)), row(1000, id(num()))}) {
		l = append(l, guarded(n))
	}
	for n, e := range refused() {
		if e != api.ErrLong {
			l = append(l, guarded(n))
		}
	}
	for _, n := range l {
		b := guarded(arrow(id(num()), id(v(0))))
		kept, same := freeze(n), freeze(b)
		asksAll(n, b)
		if !kept() || !same() {
			t.Fatal(ctor.Show(n))
		}
	}
}

// What lies behind a list's length is no kid, and what is made anew has none of it.
func TestNothingBehindALengthIsRead(t *testing.T) {
	for _, n := range slices.Concat(plain(), small(), randoms(1000, 40)) {
		g := guarded(n)
		a, more, e := norm.Step(n)
		b, again, f := norm.Step(g)
		c, h := norm.Normal(n)
		d, k := norm.Normal(g)
		if more != again || e != f || h != k || !arena.Same(a, b) || !arena.Same(c, d) {
			t.Fatal(ctor.Show(n))
		}
	}
	g := guarded(rec(field("a", id(num())), field("b", v(0))))
	m, _, _ := norm.Step(g)
	for _, x := range []*api.Node{m, m.Kids[0]} {
		if slices.ContainsFunc(x.Kids[:cap(x.Kids)][len(x.Kids):], func(k *api.Node) bool { return k != nil }) {
			t.Error("what lies behind is handed out")
		}
	}
}

// What is asked twice is answered twice alike, and of what was answered nothing is changed by what is asked later.
func TestAnswersHangOnArgumentsAlone(t *testing.T) {
	for _, n := range slices.Concat(small(), randoms(300, 40)) {
		a, _, _ := norm.Step(n)
		b, e := norm.Normal(n)
		kept, same := freeze(a), freeze(b)
		asksAll(n, num())
		if a != nil {
			asksAll(a, num())
		}
		c, _, _ := norm.Step(n)
		d, f := norm.Normal(n)
		if !kept() || !same() || !arena.Same(a, c) || !arena.Same(b, d) || e != f {
			t.Fatal(ctor.Show(n))
		}
	}
}

// A redex that is one node at two places is two redexes.
func TestOneNodeAtTwoPlaces(t *testing.T) {
	x := app(fn(arrow(v(0), v(1))), v(0))
	n := arrow(x, all(arrow(x, x)))
	y := arrow(v(0), v(0))
	for _, want := range []*api.Node{arrow(y, all(arrow(x, x))), arrow(y, all(arrow(y, x))), arrow(y, all(arrow(y, y)))} {
		steps(t, n, want, api.OK)
		n, _, _ = norm.Step(n)
	}
	steps(t, n, nil, api.OK)
	normal(t, arrow(x, all(arrow(x, x))), n, api.OK)
	w := fn(app(v(0), v(0)))
	normal(t, app(w, fn(v(0))), fn(v(0)), api.OK)
}

// Of trees that lie in themselves no more is promised than that each call ends.
func TestCallsEndOnTreesThatLieInThemselves(t *testing.T) {
	for _, n := range []*api.Node{knot(0), knot(1), knot(7), knot(1000), arrow(knot(3), nil), all(knot(2)), sum(kase("A", knot(1))), app(fn(knot(1)), num())} {
		asksAll(n, n)
		asksAll(n, num())
		if _, e := norm.Normal(n); e == api.OK {
			t.Error("a constructor")
		}
	}
}

// Trees of few nodes at very many places are refused, and those that steps would make.
func TestFewNodesAtVeryManyPlaces(t *testing.T) {
	for _, deep := range []int{16, 40, 62, 63, 64, 200, 5000} {
		n := shared(deep)
		steps(t, n, nil, api.ErrLong)
		steps(t, id(n), nil, api.ErrLong)
		normal(t, app(fn(num()), n), nil, api.ErrLong)
		refuses(t, n, n, api.ErrLong)
	}
	n := num()
	for range 40 {
		n = app(twice(), n) // each step doubles what lies in it
	}
	if _, e := norm.Normal(n); e != api.ErrFuel && e != api.ErrLong {
		t.Error(int(e))
	}
}
