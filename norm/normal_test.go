package norm_test

import (
	"math/rand/v2"
	"slices"
	"testing"

	"marquetry/api"
	"marquetry/arena"
	"marquetry/ctor"
	"marquetry/norm"
)

// P11.2 to P11.4.

// normal asks for an answer that is written here; a nil is none.
func normal(t *testing.T, n, want *api.Node, wantE api.Errno) {
	t.Helper()
	if m, e := norm.Normal(n); e != wantE || !alike(m, want) {
		t.Errorf("Normal(%.300s) = %.300s, %d, not %.300s, %d", ctor.Show(n), ctor.Show(m), int(e), ctor.Show(want), int(wantE))
	}
}

// equal asks whether two constructors are; both ways round.
func equal(t *testing.T, a, b *api.Node, want bool) {
	t.Helper()
	for _, x := range [][2]*api.Node{{a, b}, {b, a}} {
		if same, e := norm.Equal(x[0], x[1]); e != api.OK || same != want {
			t.Errorf("Equal(%.300s, %.300s) = %t, %d", ctor.Show(x[0]), ctor.Show(x[1]), same, int(e))
		}
	}
}

func TestNormal(t *testing.T) {
	i, b := num(), leaf(api.CBool)
	normal(t, app(fn(arrow(v(0), v(0))), i), arrow(i, i), api.OK)
	normal(t, id(i), i, api.OK)
	normal(t, id(id(id(v(3)))), v(3), api.OK)
	normal(t, arrow(id(i), id(b)), arrow(i, b), api.OK)
	normal(t, rec(field("a", id(v(1))), field("b", app(fn(v(1)), i))), rec(field("a", v(1)), field("b", v(0))), api.OK)
	normal(t, all(sum(kase("B", id(v(0))), kase("A", app(fn(arrow(v(0), v(1))), i)))), all(sum(kase("B", v(0)), kase("A", arrow(i, v(0))))), api.OK)
	normal(t, fn(id(v(0))), fn(v(0)), api.OK)
	normal(t, fn(app(v(4), v(0))), fn(app(v(4), v(0))), api.OK)
	normal(t, app(fn(fn(arrow(v(0), v(1)))), i, v(7)), arrow(v(7), i), api.OK)
	// redexes that come to be by a step: above, by what is handed over, by what is told
	normal(t, app(id(fn(v(0))), i), i, api.OK)
	normal(t, app(id(id(fn(arrow(v(0), b)))), i), arrow(i, b), api.OK)
	normal(t, app(fn(app(v(0), i)), fn(arrow(v(0), b))), arrow(i, b), api.OK)
	normal(t, app(fn(fn(app(v(1), v(0)))), fn(v(0)), b), b, api.OK)
	normal(t, app(fn(arrow(app(v(0), i), app(v(0), b))), fn(arrow(v(0), v(1)))), arrow(arrow(i, v(0)), arrow(b, v(0))), api.OK)
	// what is handed over is used never, and need not come to an end
	normal(t, app(fn(i), omega()), i, api.OK)
	normal(t, app(fn(fn(v(1))), i, omega()), i, api.OK)
	normal(t, app(fn(arrow(i, app(fn(v(2)), v(0)))), omega()), arrow(i, v(0)), api.OK)
	// variables of its own, below binders of what it is handed to
	normal(t, app(fn(all(app(fn(arrow(v(0), arrow(v(1), v(2)))), v(0)))), v(0)), all(arrow(v(0), arrow(v(0), v(1)))), api.OK)
	normal(t, app(fn(fn(fn(arrow(v(2), arrow(v(1), v(0)))))), v(0), v(1), v(2)), arrow(v(0), arrow(v(1), v(2))), api.OK)
	for _, n := range plain() {
		normal(t, n, n, api.OK)
	}
}

func TestFunctionsHandedToFunctions(t *testing.T) {
	for _, x := range []struct{ a, b, times int }{{0, 3, 1}, {1, 5, 5}, {2, 2, 4}, {2, 3, 9}, {3, 2, 8}, {4, 2, 16}, {2, 5, 25}} {
		want := v(0)
		for range x.times {
			want = app(v(1), want)
		}
		normal(t, app(church(x.a), church(x.b), v(1), v(0)), want, api.OK) // b to the power of a
	}
	plus := fn(fn(fn(fn(app(v(3), v(1), app(v(2), v(1), v(0)))))))
	times := fn(fn(fn(app(v(2), app(v(1), v(0))))))
	equal(t, app(plus, church(2), church(3)), church(5), false) // kinds count
	star5 := fn(fn(app(v(1), app(v(1), app(v(1), app(v(1), app(v(1), v(0))))))))
	normal(t, app(plus, church(2), church(3)), star5, api.OK)
	normal(t, app(times, church(2), church(3), v(5), v(4)), app(v(5), app(v(5), app(v(5), app(v(5), app(v(5), app(v(5), v(4))))))), api.OK)
}

func TestNormalOfManyConstructors(t *testing.T) {
	t.Parallel()
	ends := map[api.Errno]int{}
	for _, n := range slices.Concat(small(), randoms(4000, 40)) {
		m, e := norm.Normal(n)
		ends[e]++
		if e != api.OK {
			if m != nil {
				t.Fatal(ctor.Show(n))
			}
			continue
		}
		want, _, wantE := normalOf(n)
		if wantE != api.OK || !alike(m, want) {
			t.Fatalf("Normal(%.300s) = %.300s, not %.300s", ctor.Show(n), ctor.Show(m), ctor.Show(want))
		}
	}
	if ends[api.OK] < 4000 || ends[api.ErrFuel] < 2 {
		t.Error(ends)
	}
}

func TestNormalIsStepAgainAndAgain(t *testing.T) {
	for _, n := range slices.Concat(small(), randoms(3000, 60)) {
		m, e := norm.Normal(n)
		now := n
		for count := 0; ; count++ {
			next, more, f := norm.Step(now)
			switch {
			case f != api.OK:
				if e != f {
					t.Fatal(ctor.Show(n), int(e), int(f))
				}
			case !more:
				if e != api.OK || !alike(m, now) {
					t.Fatal(ctor.Show(n), int(e), int(f))
				}
			case count == 1000:
				if e != api.ErrFuel {
					t.Fatal(ctor.Show(n), int(e))
				}
			default:
				now = next
				continue
			}
			break
		}
	}
}

func TestNormalRefuses(t *testing.T) {
	for n, e := range refused() {
		normal(t, n, nil, e)
	}
}

// countdown needs as many steps as it is handed constructors.
func countdown(many int) *api.Node {
	n := num()
	for range many {
		n = fn(n)
	}
	return app(n, slices.Repeat([]*api.Node{num()}, many)...)
}

func TestTheMostSteps(t *testing.T) {
	t.Parallel()
	i := num()
	normal(t, row(1000, id(i)), row(1000, i), api.OK)
	normal(t, row(1001, id(i)), nil, api.ErrFuel)
	normal(t, row(999, id(i)), row(999, i), api.OK)
	normal(t, row(5000, id(i)), nil, api.ErrFuel)
	for many, e := range map[int]api.Errno{1: api.OK, 999: api.OK, 1000: api.OK, 1001: api.ErrFuel, 1002: api.ErrFuel, 3000: api.ErrFuel} {
		var want *api.Node
		if e == api.OK {
			want = i
		}
		normal(t, ids(many, i), want, e)
		normal(t, countdown(many), want, e)
		if want != nil {
			want = all(arrow(v(0), want))
		}
		normal(t, all(arrow(v(0), ids(many, i))), want, e)
	}
	// as many as come to be: each pair doubles
	d := twice()
	n := i
	for range 9 {
		n = app(d, n)
	}
	doubled := shared(9)
	normal(t, arrow(n, ids(489, i)), arrow(doubled, i), api.OK)
	normal(t, arrow(n, ids(490, i)), nil, api.ErrFuel)
	normal(t, app(d, ids(500, i)), nil, api.ErrFuel)
	normal(t, app(d, ids(499, i)), arrow(i, i), api.OK)
	normal(t, arrow(i, app(d, ids(499, i))), arrow(i, arrow(i, i)), api.OK)
	normal(t, arrow(id(i), app(d, ids(499, i))), arrow(i, arrow(i, i)), api.OK)
	normal(t, arrow(ids(2, i), app(d, ids(499, i))), nil, api.ErrFuel)
}

// shared is arrows over 2^deep ints.
func shared(deep int) *api.Node {
	n := num()
	for range deep {
		n = arrow(n, n)
	}
	return n
}

func TestWhatNeverEnds(t *testing.T) {
	w := fn(app(v(0), v(0)))
	three := fn(app(v(0), v(0), v(0)))
	y := fn(app(fn(app(v(1), app(v(0), v(0)))), fn(app(v(1), app(v(0), v(0))))))
	for _, n := range []*api.Node{omega(), app(w, omega()), app(three, three), app(w, three), fn(omega()), all(omega()), rec(field("a", num()), field("b", omega())), sum(kase("A", omega())), arrow(omega(), num()), arrow(num(), omega()), app(y, v(0)), y, id(omega()), app(v(0), omega())} {
		normal(t, n, nil, api.ErrFuel)
	}
	normal(t, arrow(omega(), app(fn(all(v(1))), v(65536))), nil, api.ErrFuel)
	normal(t, arrow(app(fn(all(v(1))), v(65536)), omega()), nil, api.ErrLong)
	normal(t, app(twice(), arrow(omega(), padded(32001, num()))), nil, api.ErrFuel)
}

func TestNormalOfTheMostNodes(t *testing.T) {
	i, d := num(), twice()
	big := padded(32767, i)
	normal(t, app(d, big), arrow(big, big), api.OK)
	normal(t, app(d, padded(32769, i)), nil, api.ErrLong)
	normal(t, padded(65535, i), padded(65535, i), api.OK)
	normal(t, padded(65535, id(i)), padded(65531, i), api.OK)
	normal(t, row(32767, i), row(32767, i), api.OK)
	// the whole counts, with what lies around the redex
	part := padded(32761, i)
	for around := 1; around < 20; around += 2 {
		x := padded(around, i)
		both, whole := arrow(part, part), arrow(arrow(part, part), x)
		fits(t, arrow(app(d, part), x), whole, around <= 11)
		fits(t, arrow(x, app(d, part)), arrow(x, both), around <= 11)
		fits(t, arrow(id(x), app(d, part)), arrow(x, both), around <= 11)
		fits(t, arrow(app(d, part), id(x)), whole, around <= 7)
		fits(t, arrow(app(d, id(part)), x), whole, around <= 3)
		fits(t, arrow(id(app(d, part)), x), whole, around <= 11)
	}
	normal(t, rec(field("a", app(d, big))), nil, api.ErrLong)
	normal(t, all(app(d, big)), nil, api.ErrLong)
	normal(t, app(fn(i), app(d, big)), i, api.OK)
	normal(t, app(fn(i), app(d, padded(32769, i))), i, api.OK)
	normal(t, arrow(app(d, big), omega()), nil, api.ErrLong)
	normal(t, arrow(omega(), app(d, big)), nil, api.ErrFuel)
}

// fits asks for a normal form if the constructors on the way to it have at most MaxTerm nodes.
func fits(t *testing.T, n, want *api.Node, fit bool) {
	t.Helper()
	if fit {
		normal(t, n, want, api.OK)
	} else {
		normal(t, n, nil, api.ErrLong)
	}
}

func TestNormalToTheGreatestVariable(t *testing.T) {
	high := app(fn(all(v(1))), v(65536))
	normal(t, app(fn(all(v(1))), v(65535)), all(v(65536)), api.OK)
	normal(t, high, nil, api.ErrLong)
	normal(t, id(high), nil, api.ErrLong)
	normal(t, arrow(id(num()), high), nil, api.ErrLong)
	normal(t, arrow(high, num()), nil, api.ErrLong)
	normal(t, app(fn(num()), high), num(), api.OK)
	normal(t, app(fn(fn(all(v(2)))), v(65534), num()), all(v(65535)), api.OK)
	normal(t, app(fn(fn(all(v(2)))), v(65535), num()), nil, api.ErrLong) // below two binders, until the other one goes
	normal(t, app(fn(app(v(0), v(65536))), fn(v(0))), v(65535), api.OK)
	normal(t, app(fn(app(v(0), v(65536))), fn(all(v(1)))), all(v(65536)), api.OK)
}

// What is met at the last step that may be, and what would be met one step behind it.
func TestErrorsAtTheLastStep(t *testing.T) {
	t.Parallel()
	i, d := num(), twice()
	big := padded(32767, i)
	wide := app(d, padded(32769, i))
	high := app(fn(all(v(1))), v(65536))
	normal(t, ids(999, app(d, big)), arrow(big, big), api.OK)
	normal(t, ids(1000, app(d, big)), nil, api.ErrFuel)
	for _, n := range []*api.Node{wide, high} {
		normal(t, ids(999, n), nil, api.ErrLong)
		normal(t, ids(1000, n), nil, api.ErrFuel)
	}
	for _, n := range []*api.Node{wide, high, rec(field("a", app(d, big))), arrow(high, omega()), arrow(app(d, big), id(i))} {
		normal(t, arrow(row(999, id(i)), n), nil, api.ErrLong)
		normal(t, arrow(row(1000, id(i)), n), nil, api.ErrFuel)
	}
	normal(t, ids(1000, arrow(i, i)), arrow(i, i), api.OK)
	normal(t, arrow(ids(999, i), app(fn(i), wide)), arrow(i, i), api.OK)
	normal(t, arrow(ids(1000, i), app(fn(i), wide)), nil, api.ErrFuel)
}

// P11.3.

func TestEqual(t *testing.T) {
	i, b := num(), leaf(api.CBool)
	// alike as they are
	for _, n := range plain() {
		equal(t, n, n, true)
		equal(t, n, arena.Copy(n), true)
		equal(t, n, id(n), true)
		equal(t, id(n), id(id(n)), true)
		equal(t, arrow(n, n), app(twice(), n), true)
		equal(t, n, arrow(n, n), false)
	}
	// they come to be alike
	equal(t, id(i), i, true)
	equal(t, app(fn(v(0)), i), app(fn(i), b), true)
	equal(t, app(fn(fn(v(1))), i, b), app(fn(fn(v(0))), b, i), true)
	equal(t, fn(id(v(0))), fn(v(0)), true)
	equal(t, all(arrow(v(0), id(v(1)))), all(arrow(id(v(0)), v(1))), true)
	equal(t, app(fn(v(1)), i), v(0), true)
	equal(t, app(fn(i), omega()), i, true)
	equal(t, rec(field("a", id(i)), field("b", b)), rec(field("a", i), field("b", id(b))), true)
	// they don't
	equal(t, i, b, false)
	equal(t, id(i), b, false)
	equal(t, v(0), v(1), false)
	equal(t, app(fn(v(1)), i), v(1), false)
	equal(t, all(v(0)), ex(v(0)), false)
	equal(t, all(v(0)), fn(v(0)), false)
	equal(t, all(v(0)), tree(api.CAll, kinds()[1], v(0)), false)
	equal(t, fn(app(v(1), v(0))), v(0), false) // a function is not what it hands over to
	equal(t, rec(field("a", i)), rec(field("b", i)), false)
	equal(t, rec(field("a", i)), rec(field("a", i), field("b", i)), false)
	equal(t, rec(field("a = int , b", i)), rec(field("a", i), field("b", i)), false) // though they are shown alike
	equal(t, rec(field("a", id(i))), rec(field("a", id(b))), false)
	equal(t, sum(kase("A", i), kase("B", b)), sum(kase("B", b), kase("A", i)), false) // the order of cases counts
	equal(t, sum(kase("A", i)), sum(kase("C", i)), false)
	equal(t, sum(kase("A", i)), rec(field("A", i)), false)
	equal(t, arrow(i, b), arrow(b, i), false)
	equal(t, arrow(i, b), app(i, b), false)
	equal(t, app(v(0), i, b), app(v(0), app(i, b)), false)
}

func TestEqualOfManyConstructors(t *testing.T) {
	l := slices.Concat(small(), randoms(2000, 30))
	r := rand.New(rand.NewPCG(5, 6))
	for range 20000 {
		a, b := l[r.IntN(len(l))], l[r.IntN(len(l))]
		x, e := norm.Normal(a)
		y, f := norm.Normal(b)
		same, g := norm.Equal(a, b)
		switch {
		case e != api.OK:
			f = e
			fallthrough
		case f != api.OK:
			if same || g != f {
				t.Fatal(ctor.Show(a), ctor.Show(b), int(g))
			}
		case g != api.OK || same != alike(x, y):
			t.Fatal(ctor.Show(a), ctor.Show(b), int(g))
		}
	}
}

// The error of the first one's normal form, then of the second one's.
func TestEqualRefuses(t *testing.T) {
	t.Parallel()
	l := map[*api.Node]api.Errno{nil: api.ErrNil, app(num(), nil): api.ErrNil, star(): api.ErrForm, v(-1): api.ErrForm, app(fn(v(0)), star()): api.ErrForm, padded(65537, num()): api.ErrLong}
	l[omega()] = api.ErrFuel
	l[arrow(num(), omega())] = api.ErrFuel
	l[ids(1001, num())] = api.ErrFuel
	l[app(twice(), padded(32769, num()))] = api.ErrLong
	l[app(fn(all(v(1))), v(65536))] = api.ErrLong
	l[all(app(twice(), padded(32767, num())))] = api.ErrLong
	for a, e := range l {
		for _, n := range []*api.Node{num(), id(num()), a} {
			refuses(t, a, n, e)
			refuses(t, n, a, e)
		}
		for b := range l {
			refuses(t, a, b, e)
		}
	}
	for n, e := range refused() {
		refuses(t, n, n, e)
		refuses(t, n, num(), e)
		refuses(t, num(), n, e)
	}
	equal(t, ids(1000, num()), ids(999, num()), true)
}

func refuses(t *testing.T, a, b *api.Node, want api.Errno) {
	t.Helper()
	if same, e := norm.Equal(a, b); same || e != want {
		t.Errorf("Equal(%.300s, %.300s) = %t, %d, not %d", ctor.Show(a), ctor.Show(b), same, int(e), int(want))
	}
}

// P11.4.

func TestANormalFormHasNoRedex(t *testing.T) {
	for _, n := range slices.Concat(small(), randoms(6000, 50)) {
		m, e := norm.Normal(n)
		if e != api.OK {
			continue
		}
		again, f := norm.Normal(m)
		x, more, g := norm.Step(m)
		if len(redexes(m)) > 0 || f != api.OK || !alike(again, m) || x != nil || more || g != api.OK || ctor.Check(m) != api.OK {
			t.Fatal(ctor.Show(n), ctor.Show(m))
		}
	}
}

// Whichever redex is taken first, the constructor comes to the same normal form, if it comes to one.
func TestOtherRedexesFirst(t *testing.T) {
	t.Parallel()
	r := rand.New(rand.NewPCG(7, 8))
	for _, n := range slices.Concat(small(), randoms(3000, 40)) {
		m, e := norm.Normal(n)
		if e != api.OK {
			continue
		}
		now := n
		for range 6 {
			l := redexes(now)
			if len(l) == 0 {
				break
			}
			now, _ = reduced(now, l[r.IntN(len(l))])
			if size, _ := measures(now); size > 2000 {
				break
			}
			if x, f := norm.Normal(now); f != api.OK || !alike(x, m) {
				t.Fatal(ctor.Show(n), ctor.Show(now))
			}
			equal(t, n, now, true)
		}
	}
}

// What is substituted into alike constructors makes alike ones.
func TestSubstitutedIntoAlikeOnes(t *testing.T) {
	t.Parallel()
	r := rand.New(rand.NewPCG(9, 10))
	asked := 0
	for _, a := range slices.Concat(small(), randoms(2000, 30)) {
		b, e := norm.Normal(a)
		if e != api.OK {
			continue
		}
		for range 3 {
			i, by := r.IntN(3), random(r, 8)
			x, e1 := ctor.Subst(a, i, by)
			y, e2 := ctor.Subst(b, i, by)
			p, f1 := norm.Normal(x)
			q, f2 := norm.Normal(y)
			if e1 != api.OK || e2 != api.OK || f1 != api.OK || f2 != api.OK {
				continue
			}
			asked++
			if !alike(p, q) {
				t.Fatal(ctor.Show(a), ctor.Show(by))
			}
			equal(t, x, y, true)
			same, _ := norm.Equal(id(x), y)
			if !same {
				t.Fatal(ctor.Show(a), ctor.Show(by))
			}
		}
	}
	if asked < 4000 {
		t.Error(asked)
	}
}
