package norm_test

import (
	"math/rand/v2"
	"slices"

	"marquetry/api"
)

// kinds tells what may stand in the first place of a binder.
func kinds() []*api.Node {
	return []*api.Node{star(), tree(api.KArrow, star(), star()), tree(api.KArrow, tree(api.KArrow, star(), star()), star())}
}

// below tells each kind of constructor that has another one in it, once for each place.
func below(n *api.Node) []*api.Node {
	l := []*api.Node{
		arrow(n, v(0)), arrow(v(0), n), app(n, v(1)), app(v(1), n), rec(field("a", n)), rec(field("a", v(0)), field("b", n), field("c", v(2))), sum(kase("A", n)), sum(kase("B", v(0)), kase("A", n), kase("C", num())),
	}
	for _, k := range kinds() {
		l = append(l, tree(api.CAll, k, n), tree(api.CEx, k, n), tree(api.CLam, k, n))
	}
	return l
}

// plain tells constructors of each kind, none of which has a redex.
func plain() []*api.Node {
	l := []*api.Node{v(0), v(1), v(7), v(65536), num(), leaf(api.CBool), leaf(api.CUnit), rec()}
	for _, n := range slices.Clone(l[:6]) {
		for _, m := range below(n) {
			l = append(l, m)
			if m.Kind != api.CLam { // handed over, it would be a redex
				l = append(l, app(m, v(0)))
			}
			l = append(l, arrow(m, fn(m)), app(v(0), fn(m), m))
		}
	}
	return l
}

// combined tells functions and applications, and some more, of what is at hand.
func combined(l []*api.Node) []*api.Node {
	var made []*api.Node
	for _, x := range l {
		made = append(made, fn(x), sum(kase("A", x)))
		for _, y := range l {
			made = append(made, app(x, y), app(fn(x), y))
		}
	}
	return made
}

// small tells many constructors with redexes: functions and applications of few nodes, all of them, and some of more.
func small() []*api.Node {
	one := combined([]*api.Node{v(0), v(1), v(2), num()})
	two := combined(append([]*api.Node{v(0), arrow(v(0), v(1))}, one[:30]...))
	l := slices.Concat(one, two)
	for i := 0; i < len(two); i += 40 {
		l = append(l, below(two[i])...)
	}
	return l
}

// random tells a constructor of about so many nodes, with many redexes.
func random(r *rand.Rand, size int) *api.Node {
	if size < 3 {
		return []*api.Node{v(0), v(0), v(1), v(1), v(2), v(3), num(), rec()}[r.IntN(8)]
	}
	part := 1 + r.IntN(size-1)
	a, b := random(r, part), random(r, size-part)
	switch r.IntN(12) {
	case 0:
		return arrow(a, b)
	case 1:
		return app(a, b)
	case 2:
		return rec(field("a", a), field("b", b))
	case 3:
		return sum(kase("B", a), kase("A", b))
	case 4:
		return tree([]int{api.CAll, api.CEx}[r.IntN(2)], kinds()[r.IntN(3)], app(a, b))
	case 5, 6:
		return fn(app(a, b))
	}
	return app(tree(api.CLam, kinds()[r.IntN(3)], a), b)
}

// randoms tells many of them, ever the same ones.
func randoms(many, size int) []*api.Node {
	r := rand.New(rand.NewPCG(1, 2))
	var l []*api.Node
	for i := range many {
		l = append(l, random(r, 3+i%size))
	}
	return l
}

// church tells the function that hands something to a function so many times over.
func church(times int) *api.Node {
	n := v(0)
	for range times {
		n = app(v(1), n)
	}
	return tree(api.CLam, kinds()[1], fn(n))
}

// id, twice, omega: a redex that becomes what it is handed, a function that stands twice for what it is handed, and a constructor that becomes itself.
func id(n *api.Node) *api.Node { return app(fn(v(0)), n) }
func twice() *api.Node         { return fn(arrow(v(0), v(0))) }

func omega() *api.Node {
	w := fn(app(v(0), v(0)))
	return app(w, w)
}

// ids is so many of them one in the other: as many steps.
func ids(many int, n *api.Node) *api.Node {
	for range many {
		n = id(n)
	}
	return n
}
