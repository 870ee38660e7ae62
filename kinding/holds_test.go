package kinding_test

import (
	"slices"
	"testing"

	"marquetry/api"
	"marquetry/ctor"
	"marquetry/kinding"
	"marquetry/norm"
)

// P12.3.

// What more of a context is behind what a constructor needs changes nothing.
func TestMoreOfAContext(t *testing.T) {
	t.Parallel()
	ask := func(ctx []*api.Node, n *api.Node) {
		needs := ctor.Free(n)
		if needs > len(ctx) {
			return
		}
		k, e := kinding.Kind(ctx[:needs], n)
		f := kinding.Star(ctx[:needs], n)
		for _, more := range [][]*api.Node{ctx[needs:], {star()}, kinds()} {
			ctx := slices.Concat(ctx[:needs], more)
			has(t, ctx, n, k, e)
			stars(t, ctx, n, f)
		}
	}
	for _, n := range small() {
		for _, ctx := range contexts() {
			ask(ctx, n)
		}
	}
	ask(slices.Repeat(kinds(), 20), arrow(v(0), v(9)))
	made(2000, 40, func(r maker, ctx []*api.Node, _, n *api.Node) {
		ask(ctx, n)
		ask(ctx, r.broken(n))
	})
}

// What a variable is that has no kind ahead of it changes nothing either: under one kind more, all are one further.
func TestUnderOneKindMore(t *testing.T) {
	t.Parallel()
	for _, n := range small() {
		m, e := ctor.Shift(n, 1, 0)
		if e != api.OK {
			continue
		}
		for _, ctx := range contexts() {
			k, e := kinding.Kind(ctx, n)
			has(t, slices.Concat([]*api.Node{one()}, ctx), m, k, e)
		}
	}
}

// What a function makes of a constructor has the function's other kind, and so has what comes of it, by one substitution and by all.
func TestWhatComesOfAnApplication(t *testing.T) {
	t.Parallel()
	count := 0
	made(6000, 40, func(r maker, ctx []*api.Node, to, _ *api.Node) {
		from := kinds()[r.IntN(5)]
		body := r.make(to, slices.Concat([]*api.Node{from}, ctx), 2+r.IntN(40), false)
		arg := r.make(from, ctx, 2+r.IntN(20), false)
		f := tree(api.CLam, from, body)
		has(t, ctx, f, kfn(from, to), api.OK)
		has(t, ctx, arg, from, api.OK)
		n := app(f, arg)
		has(t, ctx, n, to, api.OK)
		m, e := ctor.Subst(body, 0, arg)
		if e != api.OK {
			t.Fatal(int(e))
		}
		has(t, ctx, m, to, api.OK)
		if m, e := norm.Normal(n); e == api.OK {
			count++
			has(t, ctx, m, to, api.OK)
		}
	})
	if count < 1000 {
		t.Error("too few", count)
	}
}

// A sum in its own place, and what fits, stay so.
func TestWhatComesOfASumInItsOwnPlace(t *testing.T) {
	ctx := []*api.Node{one(), star()}
	for _, n := range fitting() {
		for _, c := range n.Kids {
			m, e := ctor.Subst(c.Kids[0], 0, n)
			if e == api.ErrLong { // a sum that stands in itself at very many places
				continue
			}
			isType(t, ctx, m)
		}
		isType(t, slices.Concat([]*api.Node{star()}, ctx), sum(kase("A", arrow(v(1), num()))))
	}
}
