package ctor_test

import (
	"math"
	"math/rand/v2"
	"slices"
	"testing"

	"marquetry/api"
	"marquetry/arena"
	"marquetry/ctor"
)

// told holds what was answered against a sense, or an error, and against the forms.
func told(t *testing.T, m *api.Node, e api.Errno, sensed string, want api.Errno) {
	t.Helper()
	switch {
	case e != want, e != api.OK && m != nil, e == api.OK && m == nil:
		t.Fatalf("error %d, not %d: %.200s", int(e), int(want), ctor.Show(m))
	case e == api.OK && sense(m, 0, plainName) != sensed:
		t.Fatalf("%.500s is %.500s, not %.500s", ctor.Show(m), sense(m, 0, plainName), sensed)
	case e == api.OK && ctor.Check(m) != api.OK:
		t.Fatalf("answered, but none: %.200s", sensed)
	}
}

// shift and subst hold what is answered against the oracle.
func shift(t *testing.T, n *api.Node, by, from int) {
	t.Helper()
	m, e := ctor.Shift(n, by, from)
	sensed, want := shiftedSense(n, by, from)
	told(t, m, e, sensed, want)
}

func subst(t *testing.T, n *api.Node, i int, by *api.Node) {
	t.Helper()
	m, e := ctor.Subst(n, i, by)
	sensed, want := putSense(n, i, by)
	told(t, m, e, sensed, want)
}

// shifts and makes ask for an answer that is written here; a nil is none.
func shifts(t *testing.T, n *api.Node, by, from int, want *api.Node, wantE api.Errno) {
	t.Helper()
	if m, e := ctor.Shift(n, by, from); e != wantE || !arena.Same(m, want) {
		t.Errorf("Shift(%.200s, %d, %d) = %.200s, %d", ctor.Show(n), by, from, ctor.Show(m), int(e))
	}
}

func makes(t *testing.T, n *api.Node, i int, by, want *api.Node, wantE api.Errno) {
	t.Helper()
	if m, e := ctor.Subst(n, i, by); e != wantE || !arena.Same(m, want) {
		t.Errorf("Subst(%.200s, %d, %.200s) = %.200s, %d", ctor.Show(n), i, ctor.Show(by), ctor.Show(m), int(e))
	}
}

// wide tells numbers of Go's whole range.
func wide() []int {
	return []int{math.MinInt, math.MinInt + 1, -1 << 32, -65537, -65536, -65535, -4, -3, -2, -1, 0, 1, 2, 3, 4, 65533, 65535, 65536, 65537, 1 << 32, math.MaxInt - 1, math.MaxInt}
}

// P10.2.

func TestShift(t *testing.T) {
	i := leaf(api.CInt)
	shifts(t, v(0), 2, 0, v(2), api.OK)
	shifts(t, v(3), -3, 0, v(0), api.OK)
	shifts(t, v(3), -4, 0, nil, api.ErrArg)
	shifts(t, v(3), 5, 3, v(8), api.OK)
	shifts(t, v(3), 5, 4, v(3), api.OK)
	shifts(t, v(3), -2, 3, v(1), api.OK)
	shifts(t, v(3), -4, 4, v(3), api.OK)
	shifts(t, arrow(v(0), arrow(v(1), v(2))), 3, 1, arrow(v(0), arrow(v(4), v(5))), api.OK)
	shifts(t, arrow(v(0), arrow(v(1), v(2))), -1, 1, arrow(v(0), arrow(v(0), v(1))), api.OK)
	shifts(t, arrow(v(0), arrow(v(1), v(2))), -1, 0, nil, api.ErrArg)
	for _, up := range []func(n *api.Node) *api.Node{all, ex, fn, func(n *api.Node) *api.Node { return sum(kase("A", i), kase("B", n)) }, func(n *api.Node) *api.Node { return tree(api.CAll, tree(api.KArrow, star(), star()), n) }} {
		shifts(t, up(v(0)), 7, 0, up(v(0)), api.OK)
		shifts(t, up(v(0)), -7, 0, up(v(0)), api.OK)
		shifts(t, up(v(1)), 7, 0, up(v(8)), api.OK)
		shifts(t, up(v(1)), -1, 0, nil, api.ErrArg)
		shifts(t, up(v(3)), -2, 0, up(v(1)), api.OK)
		shifts(t, up(v(3)), -3, 0, nil, api.ErrArg)
		shifts(t, up(v(1)), 7, 1, up(v(1)), api.OK)
		shifts(t, up(v(2)), 7, 1, up(v(9)), api.OK)
		shifts(t, up(up(app(v(2), arrow(v(1), v(0))))), 4, 0, up(up(app(v(6), arrow(v(1), v(0))))), api.OK)
		shifts(t, arrow(up(v(1)), v(1)), 4, 1, arrow(up(v(1)), v(5)), api.OK)
		shifts(t, rec(field("a", up(v(2))), field("b", v(0))), 4, 1, rec(field("a", up(v(6))), field("b", v(0))), api.OK)
	}
	shifts(t, within(9, v(9)), 5, 0, within(9, v(14)), api.OK)
	shifts(t, within(9, v(8)), 5, 0, within(9, v(8)), api.OK)
	shifts(t, within(9, v(12)), -3, 0, within(9, v(9)), api.OK)
	shifts(t, within(9, v(12)), -4, 0, nil, api.ErrArg)
}

func TestShiftOfManyConstructors(t *testing.T) {
	for _, n := range smallCons() {
		for from := -1; from < 5; from++ {
			for by := -4; by < 4; by++ {
				shift(t, n, by, from)
			}
		}
	}
	for _, n := range append(nested(), richCon()) {
		for from := -1; from < 10; from++ {
			for by := -10; by < 10; by++ {
				shift(t, n, by, from)
			}
		}
	}
}

func TestShiftToTheLeastAndTheGreatest(t *testing.T) {
	shifts(t, v(65536), 0, 0, v(65536), api.OK)
	shifts(t, v(65536), 1, 0, nil, api.ErrArg)
	shifts(t, v(65536), 1, 65536, nil, api.ErrArg)
	shifts(t, v(65536), 1, 65537, v(65536), api.OK)
	shifts(t, v(65535), 1, 0, v(65536), api.OK)
	shifts(t, v(65535), 2, 0, nil, api.ErrArg)
	shifts(t, v(0), 65536, 0, v(65536), api.OK)
	shifts(t, v(0), 65537, 0, nil, api.ErrArg)
	shifts(t, v(65536), -65536, 0, v(0), api.OK)
	shifts(t, v(65536), -65537, 0, nil, api.ErrArg)
	shifts(t, all(v(65535)), 1, 0, all(v(65536)), api.OK)
	shifts(t, all(v(65535)), 2, 0, nil, api.ErrArg)
	shifts(t, all(v(65536)), 1, 0, nil, api.ErrArg)
	shifts(t, all(v(65536)), -65535, 0, all(v(1)), api.OK)
	shifts(t, all(v(65536)), -65536, 0, nil, api.ErrArg)
	shifts(t, arrow(v(0), v(65536)), 1, 0, nil, api.ErrArg)
	shifts(t, arrow(v(65536), v(0)), 1, 0, nil, api.ErrArg)
	shifts(t, arrow(v(65536), v(0)), -1, 0, nil, api.ErrArg)
	shifts(t, within(32000, v(32000)), 33536, 0, within(32000, v(65536)), api.OK)
	shifts(t, within(32000, v(32000)), 33537, 0, nil, api.ErrArg)
	shifts(t, within(32000, v(31999)), 65536, 0, within(32000, v(31999)), api.OK)
}

func TestShiftByAndFromNumbersOfAllSizes(t *testing.T) {
	for _, n := range []*api.Node{v(0), v(1), v(65535), v(65536), leaf(api.CInt), all(v(0)), all(v(1)), fn(v(65536)), within(3, arrow(v(2), v(5))), sum(kase("A", arrow(v(3), v(4)))), rec()} {
		for _, by := range wide() {
			for _, from := range wide() {
				shift(t, n, by, from)
			}
		}
	}
}

func TestShiftRefuses(t *testing.T) {
	for n, e := range refused() {
		for _, from := range []int{0, -1} {
			for _, by := range []int{0, 1, -1} {
				shifts(t, n, by, from, nil, e)
			}
		}
	}
	shifts(t, leaf(api.CInt), 0, -1, nil, api.ErrArg)
	shifts(t, leaf(api.CInt), 1, math.MinInt, nil, api.ErrArg)
	shifts(t, leaf(api.CInt), math.MinInt, 0, leaf(api.CInt), api.OK)
	shifts(t, leaf(api.CInt), math.MaxInt, math.MaxInt, leaf(api.CInt), api.OK)
}

// refused tells trees that are no constructors, and the errors of Check.
func refused() map[*api.Node]api.Errno {
	i := leaf(api.CInt)
	return map[*api.Node]api.Errno{
		nil: api.ErrNil, arrow(v(0), nil): api.ErrNil, all(nil): api.ErrNil, arrow(shared(40, i), nil): api.ErrNil,
		shared(16, v(0)): api.ErrLong, shared(63, v(0)): api.ErrLong, full(15, v(1), arrow(v(0), i)): api.ErrLong,
		star(): api.ErrForm, tree(api.KArrow, star(), star()): api.ErrForm, v(-1): api.ErrForm, v(65537): api.ErrForm, sum(): api.ErrForm, field("a", v(0)): api.ErrForm, kase("A", v(0)): api.ErrForm, arrow(v(0), star()): api.ErrForm, arrow(v(0), leaf(0)): api.ErrForm,
		rec(field("b", v(0)), field("a", v(0))): api.ErrForm, sum(kase("A", v(0)), kase("A", v(0))): api.ErrForm, leaf(api.TInt): api.ErrForm, node(api.CVar, 0, "a", ""): api.ErrForm, node(api.CInt, 0, "", "a"): api.ErrForm, node(api.CInt, 1, "", ""): api.ErrForm,
	}
}

// P10.3.

func TestSubst(t *testing.T) {
	i, b := leaf(api.CInt), leaf(api.CBool)
	makes(t, arrow(v(0), v(1)), 0, i, arrow(i, v(0)), api.OK)
	makes(t, v(0), 0, i, i, api.OK)
	makes(t, v(0), 1, i, v(0), api.OK)
	makes(t, v(1), 0, i, v(0), api.OK)
	makes(t, v(1), 1, v(1), v(1), api.OK)
	makes(t, v(1), 1, v(0), v(0), api.OK)
	makes(t, v(0), 0, v(7), v(7), api.OK)
	makes(t, b, 0, i, b, api.OK)
	makes(t, arrow(v(0), arrow(v(0), v(0))), 0, app(v(0), i), arrow(app(v(0), i), arrow(app(v(0), i), app(v(0), i))), api.OK)
	makes(t, arrow(v(0), arrow(v(1), arrow(v(2), v(3)))), 2, v(9), arrow(v(0), arrow(v(1), arrow(v(9), v(2)))), api.OK)
	for _, up := range []func(n *api.Node) *api.Node{all, ex, fn, func(n *api.Node) *api.Node { return sum(kase("A", i), kase("B", n)) }, func(n *api.Node) *api.Node { return tree(api.CLam, tree(api.KArrow, star(), star()), n) }} {
		makes(t, up(v(0)), 0, i, up(v(0)), api.OK)
		makes(t, up(v(1)), 0, i, up(i), api.OK)
		makes(t, up(v(2)), 0, i, up(v(1)), api.OK)
		makes(t, up(v(1)), 1, i, up(v(1)), api.OK)
		makes(t, up(v(2)), 1, i, up(i), api.OK)
		makes(t, up(v(1)), 0, v(0), up(v(1)), api.OK)
		makes(t, up(v(1)), 0, up(arrow(v(0), v(1))), up(up(arrow(v(0), v(2)))), api.OK)
		makes(t, up(v(3)), 2, arrow(v(0), arrow(v(2), v(3))), up(arrow(v(1), arrow(v(3), v(4)))), api.OK)
		makes(t, up(up(arrow(v(2), v(3)))), 0, v(5), up(up(arrow(v(7), v(2)))), api.OK)
		makes(t, arrow(v(0), up(arrow(v(1), up(v(2))))), 0, app(v(0), up(v(1))), arrow(app(v(0), up(v(1))), up(arrow(app(v(1), up(v(2))), up(app(v(2), up(v(3))))))), api.OK)
		makes(t, rec(field("a", up(v(1))), field("b", v(0)), field("c", v(1))), 0, v(1), rec(field("a", up(v(2))), field("b", v(1)), field("c", v(0))), api.OK)
	}
	makes(t, within(9, v(9)), 0, arrow(v(0), all(arrow(v(0), v(1)))), within(9, arrow(v(9), all(arrow(v(0), v(10))))), api.OK)
	makes(t, within(9, v(8)), 0, i, within(9, v(8)), api.OK)
	makes(t, within(9, v(10)), 0, i, within(9, v(9)), api.OK)
}

// putIn tells constructors that are put in the place of variables.
func putIn() []*api.Node {
	return []*api.Node{leaf(api.CInt), v(0), v(1), v(2), v(5), arrow(v(0), v(1)), all(v(0)), all(arrow(v(0), app(v(1), v(3)))), sum(kase("A", arrow(v(0), v(2)))), fn(ex(arrow(v(0), arrow(v(1), arrow(v(2), v(3)))))), rec(field("a", v(0)), field("b", rec()))}
}

func TestSubstOfManyConstructors(t *testing.T) {
	for _, n := range smallCons() {
		for _, by := range putIn() {
			for i := -1; i < 4; i++ {
				subst(t, n, i, by)
			}
		}
	}
	for _, n := range append(nested(), richCon()) {
		for _, by := range append(putIn(), richCon()) {
			for i := -1; i < 10; i++ {
				subst(t, n, i, by)
			}
		}
	}
}

// random tells a constructor of no more than about so many nodes, by chance as it is the same each time.
func random(r *rand.Rand, size int) *api.Node {
	if size < 3 {
		return []*api.Node{v(r.IntN(6)), v(r.IntN(3)), leaf(api.CInt), leaf(api.CUnit), rec()}[r.IntN(5)]
	}
	k := []*api.Node{star(), tree(api.KArrow, star(), star())}[r.IntN(2)]
	half := 1 + r.IntN(size-2)
	switch r.IntN(7) {
	case 0:
		return arrow(random(r, half), random(r, size-half))
	case 1:
		return app(random(r, half), random(r, size-half))
	case 2:
		return rec(field("a", random(r, half)), field("b", random(r, size-half)))
	case 3:
		return sum(kase("B", random(r, half)), kase("A", random(r, size-half)))
	}
	return tree([]int{api.CAll, api.CEx, api.CLam}[r.IntN(3)], k, random(r, size-2))
}

func TestVariablesOfConstructorsByChance(t *testing.T) {
	r := rand.New(rand.NewPCG(1, 2))
	for range 4000 {
		n, by := random(r, 3+r.IntN(60)), random(r, 1+r.IntN(20))
		shift(t, n, r.IntN(12)-6, r.IntN(5))
		subst(t, n, r.IntN(5), by)
		looks(t, n)
	}
}

func TestSubstOfVariablesOfAllSizes(t *testing.T) {
	for _, n := range []*api.Node{v(0), v(1), v(65535), v(65536), all(v(0)), all(v(1)), fn(v(65536)), within(3, arrow(v(2), v(5)))} {
		for _, i := range wide() {
			for _, by := range []*api.Node{leaf(api.CInt), v(0), v(65536), all(v(65536))} {
				subst(t, n, i, by)
			}
		}
	}
}

// A result, too, has an odd number of nodes: the most that may be are one less than MaxTerm, and then there is one more than MaxTerm.
func TestSubstOfTheMostNodes(t *testing.T) {
	i, three := leaf(api.CInt), arrow(v(0), leaf(api.CInt))
	makes(t, full(15, i, v(0)), 0, i, full(15, i, i), api.OK)
	makes(t, full(15, i, v(0)), 0, three, nil, api.ErrLong)
	makes(t, full(15, i, v(1)), 0, three, full(15, i, v(0)), api.OK)
	makes(t, full(15, v(0), v(0)), 0, v(3), full(15, v(3), v(3)), api.OK)
	makes(t, full(14, v(0), v(0)), 0, three, full(14, three, three), api.OK)
	makes(t, arrow(full(14, v(0), v(0)), i), 0, three, nil, api.ErrLong)
	makes(t, all(full(14, v(1), v(1))), 0, three, nil, api.ErrLong)
	makes(t, full(14, v(0), v(0)), 0, arrow(three, i), nil, api.ErrLong)
	makes(t, v(0), 0, full(15, i, i), full(15, i, i), api.OK)
	makes(t, all(v(1)), 0, full(15, i, i), nil, api.ErrLong)
	makes(t, all(v(0)), 0, full(15, i, i), all(v(0)), api.OK)
	makes(t, arrow(v(0), v(0)), 0, full(14, i, i), full(15, i, i), api.OK)
	makes(t, arrow(v(0), v(0)), 0, full(14, i, three), nil, api.ErrLong)
	makes(t, full(15, v(0), v(0)), 0, full(15, v(0), v(0)), nil, api.ErrLong)
	makes(t, full(15, v(0), v(0)), 1, full(15, v(0), v(0)), full(15, v(0), v(0)), api.OK)
	makes(t, shared(15, v(0)), 0, shared(15, v(0)), nil, api.ErrLong)
	makes(t, shared(7, v(0)), 0, shared(8, v(0)), shared(15, v(0)), api.OK)
	makes(t, shared(8, v(0)), 0, shared(8, v(0)), nil, api.ErrLong)
	makes(t, within(16000, v(16000)), 0, within(16767, v(16767)), within(16000, within(16767, v(32767))), api.OK)
	makes(t, within(16000, v(16000)), 0, within(16768, v(0)), nil, api.ErrLong)
}

func TestSubstOfTheGreatestVariables(t *testing.T) {
	makes(t, v(0), 0, v(65536), v(65536), api.OK)
	makes(t, v(65536), 0, v(0), v(65535), api.OK)
	makes(t, v(65536), 65536, v(65536), v(65536), api.OK)
	makes(t, v(65536), 65535, v(65536), v(65535), api.OK)
	makes(t, all(v(1)), 0, v(65535), all(v(65536)), api.OK)
	makes(t, all(v(1)), 0, v(65536), nil, api.ErrLong)
	makes(t, all(v(1)), 0, all(v(65535)), all(all(v(65536))), api.OK)
	makes(t, all(v(1)), 0, all(v(65536)), nil, api.ErrLong)
	makes(t, all(v(2)), 0, v(65536), all(v(1)), api.OK)
	makes(t, all(v(0)), 0, v(65536), all(v(0)), api.OK)
	makes(t, all(v(65536)), 65535, v(65535), all(v(65536)), api.OK)
	makes(t, all(v(65536)), 65535, v(65536), nil, api.ErrLong)
	makes(t, arrow(v(0), all(v(1))), 0, v(65536), nil, api.ErrLong)
	makes(t, arrow(all(v(1)), v(0)), 0, v(65536), nil, api.ErrLong)
	makes(t, arrow(all(v(1)), v(0)), 0, arrow(v(65536), v(0)), nil, api.ErrLong)
	makes(t, arrow(fn(ex(v(2))), all(v(1))), 0, v(65534), arrow(fn(ex(v(65536))), all(v(65535))), api.OK)
	makes(t, arrow(all(v(1)), fn(ex(v(2)))), 0, v(65535), nil, api.ErrLong)
	makes(t, within(30000, v(30000)), 0, v(35536), within(30000, v(65536)), api.OK)
	makes(t, within(30000, v(30000)), 0, v(35537), nil, api.ErrLong)
}

// Check's error of n, then of by, then ErrArg, then ErrLong.
func TestSubstRefuses(t *testing.T) {
	for n, e := range refused() {
		makes(t, v(0), 0, n, nil, e)
		makes(t, v(0), 1, n, nil, e)
		makes(t, full(15, v(0), v(0)), -1, n, nil, e)
		for by, other := range refused() {
			makes(t, n, 0, by, nil, e)
			makes(t, by, -1, n, nil, other)
		}
		for _, by := range []*api.Node{v(0), v(65536), full(15, v(0), v(0))} {
			makes(t, n, 0, by, nil, e)
			makes(t, n, -1, by, nil, e)
		}
	}
	for _, i := range []int{-1, -2, math.MinInt, -65536} {
		makes(t, v(0), i, v(0), nil, api.ErrArg)
		makes(t, leaf(api.CInt), i, v(0), nil, api.ErrArg)
		makes(t, all(v(0)), i, v(0), nil, api.ErrArg)
		makes(t, full(15, v(0), v(0)), i, full(15, v(0), v(0)), nil, api.ErrArg)
		makes(t, all(v(0)), i, v(65536), nil, api.ErrArg)
	}
}

// P10.4.

// looks holds Free and Occurs against the oracle.
func looks(t *testing.T, n *api.Node) {
	t.Helper()
	numbers, _ := frees(n)
	if want := slices.Max(append(numbers, -1)) + 1; ctor.Free(n) != want {
		t.Fatalf("Free(%.200s) = %d, not %d", ctor.Show(n), ctor.Free(n), want)
	}
	for i := -12; i < 12; i++ {
		if ctor.Occurs(n, i) != slices.Contains(numbers, i) {
			t.Fatalf("Occurs(%.200s, %d) = %t", ctor.Show(n), i, ctor.Occurs(n, i))
		}
	}
}

func TestFreeAndOccursOfManyConstructors(t *testing.T) {
	for _, n := range slices.Concat(smallCons(), nested(), []*api.Node{richCon(), guarded(richCon())}) {
		looks(t, n)
	}
}

func TestFreeAndOccurs(t *testing.T) {
	for _, x := range []struct {
		n    *api.Node
		free int
		in   []int
	}{
		{leaf(api.CInt), 0, nil}, {rec(), 0, nil}, {v(0), 1, []int{0}}, {v(5), 6, []int{5}}, {v(65536), 65537, []int{65536}},
		{all(v(0)), 0, nil}, {all(v(1)), 1, []int{0}}, {ex(v(0)), 0, nil}, {ex(v(2)), 2, []int{1}}, {fn(v(0)), 0, nil}, {fn(v(3)), 3, []int{2}}, {all(v(65536)), 65536, []int{65535}},
		{sum(kase("A", v(0)), kase("B", v(0))), 0, nil}, {sum(kase("A", v(1)), kase("B", v(0))), 1, []int{0}}, {sum(kase("A", v(0)), kase("B", v(4))), 4, []int{3}},
		{arrow(v(4), v(1)), 5, []int{1, 4}}, {arrow(v(1), v(4)), 5, []int{1, 4}}, {rec(field("a", v(2)), field("b", all(v(2)))), 3, []int{1, 2}},
		{within(7, v(6)), 0, nil}, {within(7, v(7)), 1, []int{0}}, {within(7, v(9)), 3, []int{2}}, {within(30000, v(30004)), 5, []int{4}}, {full(15, v(2), v(7)), 8, []int{2, 7}},
	} {
		if ctor.Free(x.n) != x.free {
			t.Errorf("Free(%.200s) = %d", ctor.Show(x.n), ctor.Free(x.n))
		}
		for _, i := range append(wide(), 5, 6, 7, 9, 30004, 29999) {
			if ctor.Occurs(x.n, i) != slices.Contains(x.in, i) {
				t.Errorf("Occurs(%.200s, %d)", ctor.Show(x.n), i)
			}
		}
	}
}

func TestFreeAndOccursOfOtherTrees(t *testing.T) {
	for n := range refused() {
		if ctor.Free(n) != 0 {
			t.Error("Free", ctor.Free(n))
		}
		for _, i := range wide() {
			if ctor.Occurs(n, i) {
				t.Error("Occurs", i)
			}
		}
	}
}

// P10.6.

func TestWhatIsShiftedThereAndBackIsAsItWas(t *testing.T) {
	for _, n := range slices.Concat(smallCons(), nested(), []*api.Node{richCon(), full(15, v(0), v(9)), within(32767, v(32770))}) {
		for _, by := range []int{0, 1, 2, 7, 30000} {
			for _, from := range []int{0, 1, 2, 5, 70000} {
				m, e := ctor.Shift(n, by, from)
				back, f := ctor.Shift(m, -by, from)
				if e != api.OK || f != api.OK || !arena.Same(back, n) {
					t.Fatal(ctor.Show(n), by, from, int(e), int(f))
				}
			}
		}
		down, e := ctor.Shift(n, -ctor.Free(n), ctor.Free(n))
		if e != api.OK || !arena.Same(down, n) {
			t.Fatal(ctor.Show(n))
		}
	}
}

func TestAVariableThatDoesNotOccurIsSubstitutedWithoutATrace(t *testing.T) {
	for _, n := range slices.Concat(smallCons(), nested(), []*api.Node{richCon()}) {
		for i := range 4 {
			gap, e := ctor.Shift(n, 1, i)
			for _, by := range append(putIn(), v(65536)) {
				if m, f := ctor.Subst(gap, i, by); e != api.OK || f != api.OK || ctor.Occurs(gap, i) || !arena.Same(m, n) {
					t.Fatal(ctor.Show(n), i, int(e), int(f))
				}
				if m, f := ctor.Subst(n, ctor.Free(n)+i, by); f != api.OK || !arena.Same(m, n) {
					t.Fatal(ctor.Show(n), i, int(f))
				}
			}
		}
	}
}

func TestALargeConstructorThatIsNotPutIn(t *testing.T) {
	for _, n := range []*api.Node{leaf(api.CInt), all(v(0)), full(15, v(0), v(9)), within(32767, v(32766))} {
		if m, e := ctor.Subst(n, 10, full(15, v(0), v(65536))); e != api.OK || !arena.Same(m, n) {
			t.Errorf("%.200s, %d", ctor.Show(n), int(e))
		}
	}
}

// A variable that is put in its own place, as it is called outside, is another name alone.
func TestAVariableInItsOwnPlace(t *testing.T) {
	for _, n := range slices.Concat(smallCons(), nested()) {
		for i := range 4 {
			gap, _ := ctor.Shift(n, 1, i+1)
			if m, e := ctor.Subst(gap, i, v(i)); e != api.OK || !arena.Same(m, n) {
				t.Fatal(ctor.Show(n), i, int(e))
			}
		}
	}
}

// What is put in at two places, one after the other, is what is put in turned round, if neither lies in the other.
func TestTwoSubstitutions(t *testing.T) {
	r := rand.New(rand.NewPCG(3, 4))
	for range 3000 {
		n, a, b := random(r, 40), random(r, 9), random(r, 9)
		i := r.IntN(3)
		j := i + r.IntN(3)
		up, _ := ctor.Shift(b, 1, i)
		x, _ := ctor.Subst(n, j+1, up)
		inner, _ := ctor.Subst(a, j, b)
		x, _ = ctor.Subst(x, i, inner)
		y, _ := ctor.Subst(n, i, a)
		y, e := ctor.Subst(y, j, b)
		if e != api.OK || !arena.Same(x, y) {
			t.Fatal(ctor.Show(n), i, j, ctor.Show(a), ctor.Show(b), ctor.Show(x), ctor.Show(y))
		}
	}
}
