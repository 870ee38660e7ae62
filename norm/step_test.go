package norm_test

import (
	"slices"
	"testing"

	"marquetry/api"
	"marquetry/arena"
	"marquetry/ctor"
	"marquetry/norm"
)

// P11.1.

// step holds Step against the oracle, and tells what was answered.
func step(t *testing.T, n *api.Node) *api.Node {
	t.Helper()
	m, more, e := norm.Step(n)
	want, wantMore, wantE := stepOf(n)
	if more != wantMore || e != wantE || !alike(m, want) {
		t.Fatalf("Step(%.300s) = %.300s, %t, %d, not %.300s", ctor.Show(n), ctor.Show(m), more, int(e), ctor.Show(want))
	}
	if e == api.OK && more && ctor.Check(m) != api.OK {
		t.Fatalf("Step(%.300s) is no constructor", ctor.Show(n))
	}
	return m
}

// steps asks for an answer that is written here; a nil is none.
func steps(t *testing.T, n, want *api.Node, wantE api.Errno) {
	t.Helper()
	m, more, e := norm.Step(n)
	if e != wantE || !alike(m, want) || more != (want != nil) {
		t.Errorf("Step(%.300s) = %.300s, %t, %d, not %.300s, %d", ctor.Show(n), ctor.Show(m), more, int(e), ctor.Show(want), int(wantE))
	}
}

func TestNoRedex(t *testing.T) {
	for _, n := range plain() {
		steps(t, n, nil, api.OK)
	}
	for _, n := range []*api.Node{
		app(v(0), fn(v(0))), arrow(fn(v(0)), num()), fn(fn(v(1))), app(app(v(0), num()), fn(v(0))), app(all(v(0)), num()), app(ex(v(0)), num()), app(rec(field("a", fn(v(0)))), num()), app(arrow(fn(v(0)), num()), num()),
		app(sum(kase("A", fn(v(0)))), num()), sum(kase("A", fn(v(0))), kase("B", num())), rec(field("a", fn(v(0))), field("b", num())), all(fn(v(0))), ex(arrow(fn(v(1)), num())), padded(65535, fn(v(0))), row(32767, num()), app(v(65536), v(65536)),
	} {
		steps(t, n, nil, api.OK)
	}
}

func TestARedexItself(t *testing.T) {
	i := num()
	steps(t, id(i), i, api.OK)
	steps(t, id(v(0)), v(0), api.OK)
	steps(t, id(v(7)), v(7), api.OK)
	steps(t, id(v(65536)), v(65536), api.OK)
	steps(t, app(fn(v(1)), i), v(0), api.OK)
	steps(t, app(fn(v(5)), i), v(4), api.OK)
	steps(t, app(fn(v(65536)), i), v(65535), api.OK)
	steps(t, app(fn(i), v(3)), i, api.OK)
	steps(t, app(fn(i), omega()), i, api.OK)
	steps(t, app(fn(arrow(v(0), v(0))), i), arrow(i, i), api.OK)
	steps(t, app(fn(arrow(v(0), v(1))), v(0)), arrow(v(0), v(0)), api.OK)
	steps(t, app(fn(fn(arrow(v(0), v(1)))), i), fn(arrow(v(0), i)), api.OK)
	steps(t, app(fn(fn(arrow(v(0), v(1)))), v(0)), fn(arrow(v(0), v(1))), api.OK)
	steps(t, app(fn(fn(v(1))), v(3)), fn(v(4)), api.OK)
	steps(t, app(fn(fn(v(2))), v(3)), fn(v(1)), api.OK)
	steps(t, app(fn(sum(kase("A", v(1)), kase("B", v(0)))), v(3)), sum(kase("A", v(4)), kase("B", v(0))), api.OK)
	steps(t, app(fn(rec(field("a", v(0)), field("b", v(1)))), rec(field("a", v(0)))), rec(field("a", rec(field("a", v(0)))), field("b", v(0))), api.OK)
	steps(t, app(fn(all(ex(arrow(v(2), arrow(v(1), v(0)))))), arrow(v(0), all(v(1)))), all(ex(arrow(arrow(v(2), all(v(3))), arrow(v(1), v(0))))), api.OK)
	steps(t, app(fn(app(v(0), v(0))), fn(v(0))), app(fn(v(0)), fn(v(0))), api.OK)
	steps(t, omega(), omega(), api.OK)
	for _, k := range kinds() {
		steps(t, app(tree(api.CLam, k, arrow(v(0), v(2))), v(4)), arrow(v(4), v(1)), api.OK)
	}
}

func TestRedexesWithinEachKind(t *testing.T) {
	for _, x := range [][2]*api.Node{{id(num()), num()}, {app(fn(v(1)), num()), v(0)}, {app(fn(v(3)), num()), v(2)}, {app(fn(arrow(v(0), v(1))), v(1)), arrow(v(1), v(0))}, {id(leaf(api.CBool)), leaf(api.CBool)}} {
		now := below(x[1])
		for i, n := range below(x[0]) {
			steps(t, n, now[i], api.OK)
			deep := below(now[i])
			for k, m := range below(n) {
				if m.Kind == api.CApp && m.Kids[0] == n && n.Kind == api.CLam {
					continue // another one comes first
				}
				steps(t, m, deep[k], api.OK)
			}
		}
	}
}

func TestTheFirstOfSeveral(t *testing.T) {
	i, b := num(), leaf(api.CBool)
	x, y := id(i), id(b)
	steps(t, arrow(x, y), arrow(i, y), api.OK)
	steps(t, arrow(i, y), arrow(i, b), api.OK)
	steps(t, app(x, y), app(i, y), api.OK)
	steps(t, app(v(0), x, y), app(v(0), i, y), api.OK)
	steps(t, rec(field("a", i), field("b", x), field("c", y)), rec(field("a", i), field("b", i), field("c", y)), api.OK)
	steps(t, sum(kase("B", x), kase("A", y)), sum(kase("B", i), kase("A", y)), api.OK)
	steps(t, arrow(all(ex(fn(arrow(i, x)))), y), arrow(all(ex(fn(arrow(i, i)))), y), api.OK)
	steps(t, arrow(arrow(i, arrow(i, x)), y), arrow(arrow(i, arrow(i, i)), y), api.OK)
	// one in the other: the outer one, whatever lies in what is handed over, or in the function
	steps(t, id(x), x, api.OK)
	steps(t, app(fn(x), y), x, api.OK)
	steps(t, app(fn(arrow(v(0), v(0))), x), arrow(x, x), api.OK)
	steps(t, app(fn(i), omega()), i, api.OK)
	steps(t, app(fn(fn(id(v(1)))), x), fn(id(x)), api.OK)
	// a CApp of a CApp is none itself, though the one in it is
	steps(t, app(fn(fn(arrow(v(0), v(1)))), i, b), app(fn(arrow(v(0), i)), b), api.OK)
	steps(t, app(fn(v(0)), fn(v(0)), y), app(fn(v(0)), y), api.OK)
	steps(t, app(id(v(0)), y), app(v(0), y), api.OK)
	// alike ones, and one node at two places: one step changes one place
	steps(t, arrow(x, x), arrow(i, x), api.OK)
	steps(t, arrow(arrow(x, x), x), arrow(arrow(i, x), x), api.OK)
	steps(t, rec(field("a", all(x)), field("b", x)), rec(field("a", all(i)), field("b", x)), api.OK)
	free := app(fn(v(1)), i)
	steps(t, arrow(all(free), free), arrow(all(v(0)), free), api.OK)
}

func TestStepsOfManyConstructors(t *testing.T) {
	for _, n := range slices.Concat(plain(), small(), randoms(4000, 40)) {
		for range 12 {
			size, _ := measures(n)
			if n = step(t, n); n == nil || size > 300 {
				break
			}
		}
	}
}

func TestStepRefuses(t *testing.T) {
	for n, e := range refused() {
		steps(t, n, nil, e)
	}
	steps(t, v(65536), nil, api.OK)
	steps(t, padded(65535, num()), nil, api.OK)
	steps(t, padded(65535, id(num())), padded(65531, num()), api.OK)
}

// Subst's error of the first redex: what it becomes has an odd number of nodes, so MaxTerm - 1 of them or MaxTerm + 1.
func TestStepsToTheMostNodes(t *testing.T) {
	d := twice()
	steps(t, app(d, padded(32767, num())), arrow(padded(32767, num()), padded(32767, num())), api.OK)
	steps(t, app(d, padded(32769, num())), nil, api.ErrLong)
	three := arrow(v(0), arrow(v(0), v(0)))
	part := padded(10923, num())
	steps(t, app(fn(padded(32769, three)), part), padded(65535, arrow(part, arrow(part, part))), api.OK)
	steps(t, app(fn(padded(32771, three)), part), nil, api.ErrLong)
	steps(t, app(fn(padded(3, v(1))), padded(65527, num())), padded(3, v(0)), api.OK)
	steps(t, app(fn(row(100, v(0))), padded(655, num())), nil, api.ErrLong)
	steps(t, arrow(id(num()), app(d, padded(32769, num()))), arrow(num(), app(d, padded(32769, num()))), api.OK)
	steps(t, arrow(app(d, padded(32769, num())), id(num())), nil, api.ErrLong)
	steps(t, app(fn(num()), app(d, padded(32769, num()))), num(), api.OK)
	steps(t, app(fn(app(d, padded(32769, num()))), num()), app(d, padded(32769, num())), api.OK)
}

// The whole may come to have more than MaxTerm nodes, though what the redex becomes has not: Step tells it all the same.
func TestStepsToMoreThanTheMostNodes(t *testing.T) {
	n := app(twice(), padded(32755, num()))
	for _, x := range []*api.Node{num(), padded(9, num()), padded(13, num())} {
		steps(t, arrow(n, x), arrow(arrow(n.Kids[1], n.Kids[1]), x), api.OK)
	}
	n = app(twice(), padded(32767, num()))
	m := arrow(n.Kids[1], n.Kids[1])
	steps(t, arrow(n, padded(32761, num())), arrow(m, padded(32761, num())), api.OK)
	steps(t, rec(field("a", n)), rec(field("a", m)), api.OK)
	steps(t, all(fn(ex(n))), all(fn(ex(m))), api.OK)
}

func TestStepsToTheGreatestVariable(t *testing.T) {
	steps(t, app(fn(all(v(1))), v(65535)), all(v(65536)), api.OK)
	steps(t, app(fn(all(v(1))), v(65536)), nil, api.ErrLong)
	steps(t, app(fn(all(v(0))), v(65536)), all(v(0)), api.OK)
	steps(t, app(fn(all(ex(v(2)))), v(65534)), all(ex(v(65536))), api.OK)
	steps(t, app(fn(all(ex(v(2)))), v(65535)), nil, api.ErrLong)
	steps(t, app(fn(sum(kase("A", v(1)))), arrow(num(), v(65536))), nil, api.ErrLong)
	steps(t, app(fn(arrow(v(0), all(v(1)))), fn(v(65536))), nil, api.ErrLong)
	steps(t, app(fn(arrow(v(0), num())), fn(v(65536))), arrow(fn(v(65536)), num()), api.OK)
	steps(t, arrow(all(app(fn(v(0)), v(65536))), num()), arrow(all(v(65536)), num()), api.OK)
	steps(t, arrow(all(app(fn(fn(v(1))), v(65536))), num()), nil, api.ErrLong)
	steps(t, arrow(id(num()), app(fn(all(v(1))), v(65536))), arrow(num(), app(fn(all(v(1))), v(65536))), api.OK)
	steps(t, arrow(app(fn(all(v(1))), v(65536)), id(num())), nil, api.ErrLong)
	steps(t, app(fn(v(65536)), v(65536)), v(65535), api.OK)
}

// What a step tells is a step of a tree that is the same, too, and what had no part in it is the same.
func TestWhatAStepLeavesAsItWas(t *testing.T) {
	rest := arrow(fn(v(3)), rec(field("a", sum(kase("A", v(9))))))
	m, _, _ := norm.Step(rec(field("a", rest), field("b", id(num())), field("c", arrow(rest, id(num())))))
	if !arena.Same(m, rec(field("a", rest), field("b", num()), field("c", arrow(rest, id(num()))))) {
		t.Error(ctor.Show(m))
	}
	for _, n := range small() {
		copied := arena.Copy(n)
		a, more, e := norm.Step(n)
		b, again, f := norm.Step(copied)
		if more != again || e != f || !arena.Same(a, b) {
			t.Fatal(ctor.Show(n))
		}
	}
}

func TestDeepRedexes(t *testing.T) {
	n, want := id(v(9)), v(9)
	for i := range 16000 {
		n, want = []*api.Node{all(n), fn(n), sum(kase("A", n)), arrow(num(), n)}[i%4], []*api.Node{all(want), fn(want), sum(kase("A", want)), arrow(num(), want)}[i%4]
	}
	steps(t, n, want, api.OK)
	left := app(id(v(0)), slices.Repeat([]*api.Node{num()}, 30000)...)
	steps(t, left, app(v(0), slices.Repeat([]*api.Node{num()}, 30000)...), api.OK)
}
