package arena_test

import (
	"math"
	"slices"
	"strings"
	"testing"

	"marquetry/api"
	"marquetry/arena"
)

// packs asks Pack of a whole tree that is not too large.
func packs(t *testing.T, n *api.Node, want []api.Cell) api.Tree {
	t.Helper()
	p, e := arena.Pack(n)
	if e != api.OK || !sameCells(p.Cells, want) {
		t.Fatalf("Pack(%.200s) = %v, %d", text(n, nil), p, int(e))
	}
	return p
}

func refusesToPack(t *testing.T, n *api.Node, want api.Errno) {
	t.Helper()
	if p, e := arena.Pack(n); len(p.Cells) != 0 || e != want {
		t.Errorf("Pack tells %d cells, %d, not %d", len(p.Cells), int(e), int(want))
	}
}

// opens asks Open of cells, and what the oracle tells.
func opens(t *testing.T, cells []api.Cell) {
	t.Helper()
	want, wantE := opened(cells)
	n, e := arena.Open(api.Tree{Cells: cells})
	if e != wantE || text(n, nil) != want {
		t.Fatalf("Open(%v) = %s, %d; not %s, %d", cells, text(n, nil), int(e), want, int(wantE))
	}
}

func refusesToOpen(t *testing.T, cells []api.Cell, want api.Errno) {
	t.Helper()
	if n, e := arena.Open(api.Tree{Cells: cells}); n != nil || e != want {
		t.Errorf("Open of %d cells = %.200s, %d, not %d", len(cells), text(n, nil), int(e), int(want))
	}
}

// measures asks Size and Deep.
func measures(t *testing.T, n *api.Node, size, deep int) {
	t.Helper()
	if s, d := arena.Size(n), arena.Deep(n); s != size || d != deep {
		t.Errorf("Size = %d, not %d; Deep = %d, not %d", s, size, d, deep)
	}
}

// P4.1.

func TestPackLaysKidsAheadOfWhatTheyLieIn(t *testing.T) {
	packs(t, tree(api.TPair, leaf(api.TInt), leaf(api.TBool)), []api.Cell{{Kind: api.TInt}, {Kind: api.TBool}, {Kind: api.TPair, Kids: []int{0, 1}}})
	packs(t, leaf(api.TUnit), []api.Cell{{Kind: api.TUnit}})
	packs(t, tree(1, tree(2, leaf(3), tree(4, leaf(5))), leaf(6), tree(7, leaf(8))), []api.Cell{
		{Kind: 3}, {Kind: 5}, {Kind: 4, Kids: []int{1}}, {Kind: 2, Kids: []int{0, 2}}, {Kind: 6}, {Kind: 8}, {Kind: 7, Kids: []int{5}}, {Kind: 1, Kids: []int{3, 4, 6}}})
}

func TestPackTellsAllOfANode(t *testing.T) {
	x := &api.Node{Kind: -5, N: math.MinInt, Name: "a\xff", Mark: "\x00", Kids: []*api.Node{{Kind: math.MaxInt, N: 7, Mark: "m"}, {Name: "n", Kids: []*api.Node{}}}}
	packs(t, x, []api.Cell{{Kind: math.MaxInt, N: 7, Mark: "m"}, {Name: "n"}, {Kind: -5, N: math.MinInt, Name: "a\xff", Mark: "\x00", Kids: []int{0, 1}}})
}

func TestPackOfManyTrees(t *testing.T) {
	for _, n := range wholeTrees() {
		packs(t, n, packed(n))
	}
}

func TestPackOfNodesAtManyPlaces(t *testing.T) {
	x := tree(2, leaf(1))
	packs(t, tree(3, x, x), []api.Cell{{Kind: 1}, {Kind: 2, Kids: []int{0}}, {Kind: 1}, {Kind: 2, Kids: []int{2}}, {Kind: 3, Kids: []int{1, 3}}})
	for n := range 12 {
		packs(t, shared(n), packed(shared(n)))
	}
}

func TestPackOfTheMostNodes(t *testing.T) {
	for _, grow := range []func(int) *api.Node{wide, tower, comb} {
		for _, n := range []int{8191, 8192} {
			x := grow(n)
			if p := packs(t, x, packed(x)); len(p.Cells) != n {
				t.Error(n, len(p.Cells))
			}
		}
		for _, n := range []int{8193, 8194, 1 << 16} {
			refusesToPack(t, grow(n), api.ErrLong)
		}
	}
	refusesToPack(t, tree(1, wide(4000), tower(4192)), api.ErrLong)
	packs(t, tree(1, wide(4000), tower(4191)), packed(tree(1, wide(4000), tower(4191))))
	refusesToPack(t, shared(13), api.ErrLong)
	packs(t, tree(1, shared(12)), packed(tree(1, shared(12))))
	refusesToPack(t, tree(1, shared(12), leaf(2)), api.ErrLong)
}

func TestPackOfNilAndOfTreesThatAreNotWhole(t *testing.T) {
	refusesToPack(t, nil, api.ErrNil)
	refusesToPack(t, tree(1, nil), api.ErrNil)
	refusesToPack(t, tree(1, leaf(2), nil), api.ErrNil)
	refusesToPack(t, tree(1, nil, leaf(2)), api.ErrNil)
	refusesToPack(t, tree(1, tree(2, leaf(3), tree(4, nil)), leaf(5)), api.ErrNil)
	for _, n := range smallTrees(5) {
		if hasGap(n) {
			refusesToPack(t, n, api.ErrNil)
		}
	}
}

// A tree that is neither whole nor small enough is told to be not whole, wherever the nil lies.
func TestPackTellsANilAheadOfTooManyNodes(t *testing.T) {
	for _, grow := range []func(int) *api.Node{wide, tower, comb} {
		for _, n := range []int{8192, 8193, 1 << 17} {
			refusesToPack(t, tree(1, grow(n), nil), api.ErrNil)
			refusesToPack(t, tree(1, nil, grow(n)), api.ErrNil)
			refusesToPack(t, tree(1, grow(n), tree(2, leaf(3), nil)), api.ErrNil)
		}
	}
	low := tower(1 << 16)
	last, _ := arena.At(low, make([]int, 1<<16-1))
	last.Kids = []*api.Node{nil}
	refusesToPack(t, low, api.ErrNil)
	refusesToPack(t, tree(1, shared(20), nil), api.ErrNil)
}

// P4.2.

func TestOpenMakesTheTree(t *testing.T) {
	opens(t, []api.Cell{{Kind: api.TInt}, {Kind: api.TBool}, {Kind: api.TPair, Kids: []int{0, 1}}})
	opens(t, []api.Cell{{Kind: -5, N: math.MinInt, Name: "a\xff", Mark: "\x00", Kids: []int{}}})
	opens(t, []api.Cell{{Kind: 1, Name: "a"}, {N: 2, Mark: "b", Kids: []int{0}}, {Kind: 3}, {Kind: math.MaxInt, N: math.MaxInt, Kids: []int{2, 1}}})
	n, e := arena.Open(api.Tree{Cells: []api.Cell{{Kind: 1}, {Kind: 2}, {Kind: 3, Kids: []int{1, 0}}}})
	if e != api.OK || n.Kids[0].Kind != 2 || n.Kids[1].Kind != 1 {
		t.Error(text(n, nil), int(e))
	}
}

// Kids may be at any place ahead, and in any order, not just where Pack lays them.
func TestOpenOfKidsInAnyOrder(t *testing.T) {
	opens(t, []api.Cell{{Kind: 1}, {Kind: 2}, {Kind: 3}, {Kind: 4, Kids: []int{0}}, {Kind: 5, Kids: []int{2, 3, 1}}})
	opens(t, []api.Cell{{Kind: 1}, {Kind: 2}, {Kind: 3, Kids: []int{0}}, {Kind: 4, Kids: []int{1}}, {Kind: 5, Kids: []int{3, 2}}})
}

// rowsOfKids tells all lists of up to most numbers from -1 to n.
func rowsOfKids(n, most int) [][]int {
	l := [][]int{nil}
	for ahead := 0; ahead < len(l); ahead++ {
		if len(l[ahead]) < most {
			for x := -1; x <= n; x++ {
				l = append(l, slices.Concat(l[ahead], []int{x}))
			}
		}
	}
	return l
}

func TestOpenOfAllSmallListsOfCells(t *testing.T) {
	cells := []api.Cell{{Kind: 1, Name: "a"}, {Kind: 2, N: 5}, {Kind: 3, Mark: "c"}, {Kind: 4}}
	var fill func(n, at int, rows [][]int)
	fill = func(n, at int, rows [][]int) {
		if at == n {
			opens(t, cells[:n])
			return
		}
		for _, row := range rows {
			cells[at].Kids = row
			fill(n, at+1, rows)
		}
	}
	fill(1, 0, rowsOfKids(1, 3))
	fill(2, 0, rowsOfKids(2, 3))
	fill(3, 0, rowsOfKids(3, 2))
	cells[0].Kids = nil // else it is refused, as those of three are
	fill(4, 1, rowsOfKids(4, 2))
	cells[1].Kids, cells[2].Kids = nil, nil
	fill(4, 3, rowsOfKids(4, 3))
}

func TestOpenOfNoCells(t *testing.T) {
	refusesToOpen(t, nil, api.ErrNil)
	refusesToOpen(t, []api.Cell{}, api.ErrNil)
	refusesToOpen(t, []api.Cell{{Kind: 1}}[:0], api.ErrNil)
}

func TestOpenOfTheMostCells(t *testing.T) {
	for _, grow := range []func(int) *api.Node{wide, tower, comb} {
		for _, n := range []int{8191, 8192} {
			cells := packed(grow(n))
			opens(t, cells)
			refusesToOpen(t, append(cells, api.Cell{Kids: []int{n - 2}}), map[int]api.Errno{8191: api.ErrForm, 8192: api.ErrLong}[n])
		}
		for _, n := range []int{8193, 8194, 1 << 16} {
			refusesToOpen(t, packed(grow(n)), api.ErrLong)
		}
	}
	refusesToOpen(t, make([]api.Cell, 8192), api.ErrForm)
	refusesToOpen(t, make([]api.Cell, 8193), api.ErrLong)
}

func TestOpenOfKidsThatAreNotAhead(t *testing.T) {
	for _, kid := range []int{-1, -2, 2, 3, 4, 5, math.MinInt, math.MinInt + 1, math.MinInt32, math.MaxInt32, math.MaxInt, 1 << 32, 1<<32 + 1} {
		for _, row := range [][]int{{kid}, {0, kid}, {kid, 0}, {0, 1, kid}, {0, kid, 1}, {kid, kid}} {
			refusesToOpen(t, []api.Cell{{}, {}, {Kids: row}}, api.ErrForm)
			refusesToOpen(t, []api.Cell{{}, {}, {Kids: row}, {}, {Kids: []int{2, 3}}}, api.ErrForm)
		}
	}
	refusesToOpen(t, []api.Cell{{Kids: []int{0}}}, api.ErrForm)
	refusesToOpen(t, []api.Cell{{Kids: []int{1}}, {Kids: []int{0}}}, api.ErrForm)
	refusesToOpen(t, []api.Cell{{Kids: []int{1}}, {}}, api.ErrForm)
}

func TestOpenOfKidsOfTwoOfOneTwiceAndOfNone(t *testing.T) {
	for _, cells := range [][]api.Cell{
		{{}, {}},
		{{}, {}, {Kids: []int{1}}},
		{{}, {}, {Kids: []int{0}}},
		{{}, {Kids: []int{0}}, {}},
		{{}, {Kids: []int{0, 0}}},
		{{}, {}, {Kids: []int{0, 1, 0}}},
		{{}, {Kids: []int{0}}, {Kids: []int{0, 1}}},
		{{}, {Kids: []int{0}}, {Kids: []int{1, 0}}},
		{{}, {Kids: []int{0}}, {Kids: []int{0}}, {Kids: []int{1, 2}}},
		{{}, {}, {Kids: []int{0, 0}}},
		{{Kids: slices.Repeat([]int{0}, 1<<16)}},
		{{}, {Kids: make([]int, 1<<16)}},
	} {
		refusesToOpen(t, cells, api.ErrForm)
	}
	large := packed(wide(8192))
	large[8191].Kids[8190] = 0
	refusesToOpen(t, large, api.ErrForm)
	large[8191].Kids[8190] = 8191
	refusesToOpen(t, large, api.ErrForm)
}

// P4.3.

func TestSameOfAllSmallTrees(t *testing.T) {
	l := smallTrees(5)
	texts := make([]string, len(l))
	for i, n := range l {
		texts[i] = text(n, nil)
	}
	for i, a := range l {
		for j, b := range l {
			if arena.Same(a, b) != (texts[i] == texts[j]) {
				t.Fatalf("Same(%s, %s)", texts[i], texts[j])
			}
		}
		if !arena.Same(a, guarded(a)) || !arena.Same(guarded(a), a) {
			t.Fatalf("Same(%s), made anew", texts[i])
		}
	}
}

// changes tells what each change of one field, or of the list of kids, at the node makes of it.
func changes(n api.Node) []api.Node {
	l := slices.Repeat([]api.Node{n}, 10)
	l[0].Kind++
	l[1].N--
	l[2].Name += "a"
	l[3].Mark += "\x00"
	l[4].Name, l[4].Mark = n.Name+"b", n.Mark+"b"
	l[5].Kids = slices.Concat(n.Kids, []*api.Node{leaf(1)})
	l[6].Kids = slices.Concat(n.Kids, []*api.Node{nil})
	l[7].Kind += 1 << 32
	l[8].N ^= math.MinInt
	l[9].Kids = slices.Concat([]*api.Node{nil}, n.Kids)
	if n.Name != n.Mark {
		swapped := n
		swapped.Name, swapped.Mark = n.Mark, n.Name
		l = append(l, swapped)
	}
	if len(n.Kids) > 0 {
		less, gap := n, n
		less.Kids = n.Kids[:len(n.Kids)-1]
		gap.Kids = slices.Concat([]*api.Node{nil}, n.Kids[1:])
		l = append(l, less, gap)
	}
	return l
}

func TestSameTellsEachChange(t *testing.T) {
	for _, n := range []*api.Node{richTree(), guarded(richTree()), comb(9), leaf(0)} {
		other := guarded(n)
		for _, x := range nodesOf(other) {
			was := *x
			for _, now := range changes(was) {
				*x = now
				if arena.Same(n, other) || arena.Same(other, n) {
					t.Errorf("Same(%s, %s)", text(n, nil), text(other, nil))
				}
			}
			*x = was
		}
		if !arena.Same(n, other) {
			t.Errorf("Same(%s)", text(n, nil))
		}
	}
}

func TestSameOfNilAndOfListsWithoutKids(t *testing.T) {
	none, empty := &api.Node{Kind: 1}, &api.Node{Kind: 1, Kids: []*api.Node{}}
	behind := &api.Node{Kind: 1, Kids: []*api.Node{leaf(2)}[:0]}
	for _, x := range []*api.Node{none, empty, behind} {
		for _, y := range []*api.Node{none, empty, behind} {
			if !arena.Same(x, y) || !arena.Same(tree(2, x), tree(2, y)) {
				t.Error(x, y)
			}
		}
		if arena.Same(x, nil) || arena.Same(nil, x) || arena.Same(x, tree(1, nil)) || arena.Same(tree(1, nil), x) {
			t.Error(x)
		}
	}
	if !arena.Same(nil, nil) || !arena.Same(tree(1, nil), tree(1, nil)) || arena.Same(tree(1, nil), tree(1, nil, nil)) || arena.Same(tree(1, nil, leaf(1)), tree(1, leaf(1), nil)) {
		t.Error("nil")
	}
}

func TestSameOfLargeTrees(t *testing.T) {
	for _, grow := range []func(int) *api.Node{wide, tower, comb} {
		a, b := grow(1<<16), grow(1<<16)
		if !arena.Same(a, b) || arena.Same(a, grow(1<<16-1)) || arena.Same(grow(1<<16-1), a) {
			t.Error("large trees")
		}
		end := b
		for len(end.Kids) > 0 {
			end = end.Kids[len(end.Kids)-1]
		}
		end.Mark = "other"
		if arena.Same(a, b) || arena.Same(b, a) {
			t.Error("the last node")
		}
	}
}

// What was held against one thing is held against another one all the same, also behind many nodes.
func TestSameBehindManyNodes(t *testing.T) {
	behind := func(kids ...*api.Node) *api.Node { return tree(1, append([]*api.Node{wide(1 << 17)}, kids...)...) }
	x, like, other := tree(2, tree(3, leaf(4))), tree(2, tree(3, leaf(4))), tree(2, tree(3, leaf(5)))
	for _, l := range [][2]*api.Node{
		{behind(x), behind(other)}, {behind(x, x), behind(like, other)}, {behind(x, other), behind(like, like)}, {behind(x, x, x), behind(like, like, other)}, {behind(x, other, x), behind(like, other, other)},
	} {
		if arena.Same(l[0], l[1]) || arena.Same(l[1], l[0]) {
			t.Error("other trees")
		}
	}
	if !arena.Same(behind(x, x, other, x), behind(like, x, other, like)) {
		t.Error("like trees")
	}
}

func TestCopyIsTheSameInMemoryOfItsOwn(t *testing.T) {
	for _, n := range slices.Concat(smallTrees(5), wholeTrees(), []*api.Node{guarded(richTree()), shared(8)}) {
		c := arena.Copy(n)
		if text(c, nil) != text(n, nil) {
			t.Fatalf("Copy(%s) = %s", text(n, nil), text(c, nil))
		}
		met := map[*api.Node]bool{}
		for _, x := range nodesOf(n) {
			met[x] = true
		}
		for _, x := range nodesOf(c) {
			if met[x] {
				t.Fatalf("Copy(%s): a node stands at two places", text(n, nil))
			}
			met[x] = true
		}
	}
	if arena.Copy(nil) != nil {
		t.Error("nil")
	}
}

// What is changed in a copy is changed there alone, also where what was copied has one node at two places, or something behind a list.
func TestCopySharesNoList(t *testing.T) {
	x := tree(2, leaf(1), leaf(1))
	for _, n := range []*api.Node{tree(3, x, x), guarded(tree(3, x, x)), tree(3, x, nil, x)} {
		was, kept := text(n, nil), freeze(n)
		c := arena.Copy(n)
		c.Kids[0].Kids[1], c.Kids[0].Kids[0].Name = leaf(7), "new"
		_ = append(c.Kids[0].Kids, leaf(8))
		_ = append(c.Kids, leaf(9))
		last := len(c.Kids) - 1
		if text(c.Kids[last], nil) != text(x, nil) || !kept() || text(n, nil) != was {
			t.Errorf("%s, %s", text(n, nil), text(c, nil))
		}
		if behind := c.Kids[:cap(c.Kids)][len(c.Kids):]; slices.ContainsFunc(behind, func(k *api.Node) bool { return k != nil && k.Kind == 99 }) {
			t.Error("what lies behind is handed out")
		}
	}
}

func TestCopyOfLargeTrees(t *testing.T) {
	for _, n := range []*api.Node{wide(1 << 17), tower(1 << 16), comb(1 << 17), shared(17)} {
		if c := arena.Copy(n); text(c, nil) != text(n, nil) {
			t.Error(arena.Size(n))
		}
	}
}

func TestSizeAndDeepOfManyTrees(t *testing.T) {
	for _, n := range slices.Concat(smallTrees(5), wholeTrees()) {
		paths, _ := places(n)
		measures(t, n, len(paths), depth(n))
	}
}

func TestSizeAndDeep(t *testing.T) {
	measures(t, nil, 0, 0)
	measures(t, leaf(0), 1, 1)
	measures(t, tree(0, nil), 1, 1)
	measures(t, tree(0, nil, nil, leaf(1), nil), 2, 2)
	measures(t, tree(0, tree(1, nil), leaf(1)), 3, 2)
	measures(t, tree(0, leaf(1), tree(1, leaf(2), tree(3, leaf(4))), leaf(1)), 7, 4)
	for _, n := range []int{1, 2, 60, 61, 8192, 8193, 1<<16 - 1, 1 << 16} {
		measures(t, tower(n), n, n)
		measures(t, wide(n), n, min(n, 2))
	}
	measures(t, wide(1<<20), 1<<20, 2)
	measures(t, comb(1<<17-1), 1<<17-1, 1<<16)
}

// A node counts at each place at which it stands.
func TestSizeOfNodesAtManyPlaces(t *testing.T) {
	x := tree(1, leaf(2))
	measures(t, tree(3, x, x, tree(4, x)), 8, 4)
	for n := range 62 {
		measures(t, shared(n), 1<<(n+1)-1, n+1)
	}
	measures(t, shared(62), math.MaxInt, 63)
	less := tree(1, leaf(2))
	for n := range 61 {
		less = tree(1, shared(n+1), less)
	}
	measures(t, less, math.MaxInt-1, 63)
	measures(t, tree(1, shared(40), tower(1000), nil, shared(40)), 1<<42-2+1001, 1001)
}

// P4.4.

func TestAtTellsTheTreeThere(t *testing.T) {
	n := tree(1, leaf(2), nil, tree(3, leaf(4), tree(5, leaf(6))))
	for _, x := range []struct {
		path []int
		want *api.Node
	}{{nil, n}, {[]int{}, n}, {[]int{0}, n.Kids[0]}, {[]int{2}, n.Kids[2]}, {[]int{2, 0}, n.Kids[2].Kids[0]}, {[]int{2, 1}, n.Kids[2].Kids[1]}, {[]int{2, 1, 0}, n.Kids[2].Kids[1].Kids[0]}} {
		if got, e := arena.At(n, x.path); got != x.want || e != api.OK {
			t.Error(x.path, got, int(e))
		}
	}
}

// numbers are some of what may stand in a path.
func numbers() []int {
	return []int{0, 1, 2, 3, 4, -1, math.MinInt, math.MaxInt, 1 << 32}
}

// somePaths tells all paths of up to two numbers, and more of the small ones.
func somePaths() [][]int {
	l := [][]int{nil}
	for next := 0; next < len(l); next++ {
		if len(l[next]) < 2 {
			for _, x := range numbers() {
				l = append(l, slices.Concat(l[next], []int{x}))
			}
		}
	}
	for _, row := range rowsOfKids(1, 4) {
		if len(row) > 2 {
			l = append(l, row)
		}
	}
	return l
}

func TestAtAndPutAtAllPaths(t *testing.T) {
	sub := &api.Node{Kind: 7, Name: "sub", Kids: []*api.Node{leaf(8), nil}}
	paths := somePaths()
	for _, n := range slices.Concat(smallTrees(4), []*api.Node{richTree(), guarded(comb(9)), shared(4)}) {
		_, at := places(n)
		for _, path := range paths {
			want, wantE := at[pathText(path)], api.OK
			now := text(n, map[string]string{pathText(path): text(sub, nil)})
			switch {
			case n == nil:
				wantE = api.ErrNil
			case want == nil:
				wantE = api.ErrSite
			}
			if wantE != api.OK {
				now = "-"
			}
			if got, e := arena.At(n, path); got != want || e != wantE {
				t.Fatalf("At(%s, %v) = %s, %d", text(n, nil), path, text(got, nil), int(e))
			}
			if got, e := arena.Put(n, path, sub); text(got, nil) != now || e != wantE {
				t.Fatalf("Put(%s, %v) = %s, %d", text(n, nil), path, text(got, nil), int(e))
			}
		}
	}
}

func TestAtAndPutRefuse(t *testing.T) {
	sub, gap := leaf(7), tree(1, leaf(2), nil, tree(3, nil))
	for _, path := range [][]int{{-1}, {3}, {4}, {math.MinInt}, {math.MaxInt}, {1}, {1, 0}, {2, 0}, {2, 0, 0}, {2, 1}, {0, 0}, {0, -1}, {-1, 0}, {3, 0}, make([]int, 1<<16)} {
		if x, e := arena.At(gap, path); x != nil || e != api.ErrSite {
			t.Error(path, x, int(e))
		}
		for _, s := range []*api.Node{sub, nil} {
			if x, e := arena.Put(gap, path, s); x != nil || e != api.ErrSite {
				t.Error(path, x, int(e))
			}
		}
	}
	for _, path := range [][]int{nil, {}, {0}, {-1}} {
		for _, s := range []*api.Node{sub, nil} {
			x, e := arena.At(nil, path)
			y, f := arena.Put(nil, path, s)
			if x != nil || e != api.ErrNil || y != nil || f != api.ErrNil {
				t.Error(path, int(e), int(f))
			}
		}
	}
	for _, path := range [][]int{nil, {}, {0}, {2}} {
		if x, e := arena.Put(gap, path, nil); x != nil || e != api.ErrNil {
			t.Error(path, x, int(e))
		}
	}
}

// What lies behind a list's length is no kid.
func TestAtReadsNothingBehindALength(t *testing.T) {
	n := guarded(tree(1, leaf(2)))
	for _, path := range [][]int{{1}, {3}, {0, 0}, {0, 2}} {
		if x, e := arena.At(n, path); x != nil || e != api.ErrSite {
			t.Error(path, x, int(e))
		}
		if x, e := arena.Put(n, path, leaf(3)); x != nil || e != api.ErrSite {
			t.Error(path, x, int(e))
		}
	}
	if s := text(arena.Copy(n), nil); s != text(n, nil) || arena.Size(n) != 2 || len(arena.Paths(n, -1)) != 2 || len(arena.Paths(n, 99)) != 0 {
		t.Error(s)
	}
}

func TestPutAtTheRoot(t *testing.T) {
	n, sub := richTree(), comb(5)
	for _, path := range [][]int{nil, {}} {
		if x, e := arena.Put(n, path, sub); text(x, nil) != text(sub, nil) || e != api.OK {
			t.Error(text(x, nil), int(e))
		}
	}
}

// Of one node at two places the one that the path leads to is another one then, and no other.
func TestPutOfNodesAtManyPlaces(t *testing.T) {
	x := tree(2, leaf(1), leaf(3))
	n := tree(4, x, tree(5, x), x)
	kept := freeze(n)
	for _, y := range []struct {
		path []int
		want *api.Node
	}{
		{[]int{0, 1}, tree(4, tree(2, leaf(1), leaf(7)), tree(5, x), x)},
		{[]int{1, 0, 1}, tree(4, x, tree(5, tree(2, leaf(1), leaf(7))), x)},
		{[]int{2, 0}, tree(4, x, tree(5, x), tree(2, leaf(7), leaf(3)))},
		{[]int{2}, tree(4, x, tree(5, x), leaf(7))},
	} {
		if q, e := arena.Put(n, y.path, leaf(7)); text(q, nil) != text(y.want, nil) || e != api.OK || !kept() {
			t.Error(y.path, text(q, nil), int(e))
		}
	}
	if q, e := arena.Put(n, []int{1, 0}, n); e != api.OK || text(q, nil) != text(tree(4, x, tree(5, n), x), nil) || !kept() {
		t.Error(text(q, nil), int(e))
	}
}

func TestPutFarDown(t *testing.T) {
	n := tower(1 << 16)
	path := make([]int, 1<<16-1)
	q, e := arena.Put(n, path, leaf(9))
	x, f := arena.At(q, path)
	y, g := arena.At(n, path)
	if e != api.OK || f != api.OK || g != api.OK || x.Kind != 9 || y.Kind != 1 || arena.Size(q) != 1<<16 {
		t.Error(int(e), int(f), int(g))
	}
}

func TestPathsOfAKind(t *testing.T) {
	n := tree(1, leaf(2), nil, tree(3, leaf(2), tree(1, leaf(2))), leaf(0))
	for kind, want := range map[int][][]int{
		1: {{}, {2, 1}}, 2: {{0}, {2, 0}, {2, 1, 0}}, 3: {{2}}, 0: {{3}}, 4: nil, math.MaxInt: nil, 99: nil,
		-1:          {{}, {0}, {2}, {2, 0}, {2, 1}, {2, 1, 0}, {3}},
		math.MinInt: {{}, {0}, {2}, {2, 0}, {2, 1}, {2, 1, 0}, {3}},
	} {
		if l := arena.Paths(n, kind); !slices.EqualFunc(l, want, slices.Equal) {
			t.Error(kind, l)
		}
	}
}

func TestPathsOfManyTrees(t *testing.T) {
	for _, n := range slices.Concat(smallTrees(6), wholeTrees(), []*api.Node{tree(-3, leaf(-3), leaf(2)), guarded(richTree())}) {
		all, at := places(n)
		for _, kind := range []int{0, 1, 2, 3, 4, -1, -2, -3, math.MinInt, math.MaxInt} {
			want := slices.DeleteFunc(slices.Clone(all), func(path []int) bool { return kind >= 0 && at[pathText(path)].Kind != kind })
			if l := arena.Paths(n, kind); !slices.EqualFunc(l, want, slices.Equal) {
				t.Fatalf("Paths(%s, %d) = %v", text(n, nil), kind, l)
			}
		}
	}
}

func TestPathsOfLargeTrees(t *testing.T) {
	if l := arena.Paths(wide(1<<16), 2); len(l) != 1<<16-1 || !slices.Equal(l[1<<16-2], []int{1<<16 - 2}) {
		t.Error(len(l))
	}
	if l := arena.Paths(tower(1<<16), 1); len(l) != 1 || !slices.Equal(l[0], make([]int, 1<<16-1)) {
		t.Error(len(l))
	}
	if l := arena.Paths(tower(1<<16), 2); len(l) != 0 {
		t.Error(len(l))
	}
	if l := arena.Paths(tower(2000), -1); len(l) != 2000 || !slices.Equal(l[1999], make([]int, 1999)) {
		t.Error(len(l))
	}
	if l := arena.Paths(shared(10), 1); len(l) != 1<<10 || !slices.IsSortedFunc(l, slices.Compare) {
		t.Error(len(l))
	}
}

func TestPathsShareNothing(t *testing.T) {
	l := arena.Paths(comb(9), -1)
	want := make([][]int, len(l))
	for i, path := range l {
		want[i] = slices.Clone(path)
	}
	for i := range l {
		for j := range l[i] {
			l[i][j] = 77
		}
		_ = append(l[i], 78, 79)
		copy(l[i], want[i])
		if !slices.EqualFunc(l, want, slices.Equal) {
			t.Fatal(l)
		}
	}
}

// P4.5.

func TestWhatIsPackedIsOpenedAsItWas(t *testing.T) {
	for _, n := range slices.Concat(wholeTrees(), []*api.Node{wide(8192), tower(8192), comb(8192), shared(12), guarded(richTree())}) {
		p, e := arena.Pack(n)
		m, f := arena.Open(p)
		if e != api.OK || f != api.OK || text(m, nil) != text(n, nil) || !arena.Same(n, m) {
			t.Fatal(text(n, nil), int(e), int(f))
		}
		if q, e := arena.Pack(m); e != api.OK || !sameCells(p.Cells, q.Cells) {
			t.Fatal(text(n, nil), int(e))
		}
	}
}

func TestWhatIsPutIsFound(t *testing.T) {
	subs := []*api.Node{leaf(7), richTree(), tree(1, nil), shared(3)}
	for _, n := range slices.Concat(smallTrees(5), wholeTrees()) {
		was, kept := text(n, nil), freeze(n)
		paths, _ := places(n)
		for _, path := range paths {
			for _, sub := range append(subs, n) {
				old, e := arena.At(n, path)
				q, f := arena.Put(n, path, sub)
				x, g := arena.At(q, path)
				back, h := arena.Put(q, path, old)
				if e != api.OK || f != api.OK || g != api.OK || h != api.OK || text(x, nil) != text(sub, nil) || text(back, nil) != was || !arena.Same(back, n) {
					t.Fatal(was, path, int(e), int(f), int(g), int(h))
				}
			}
		}
		if !kept() {
			t.Fatal(was, text(n, nil))
		}
	}
}

// Rules 1 and 4.

func TestWhatIsHandedInStaysAsItWas(t *testing.T) {
	for _, n := range []*api.Node{richTree(), guarded(richTree()), guarded(comb(9)), guarded(tree(1, nil, leaf(2), nil)), shared(6), knot(5)} {
		path := []int{1, 0, 5, 6}
		kept, sub := freeze(n), guarded(comb(3))
		keptSub := freeze(sub)
		arena.Pack(n)
		arena.Same(n, sub)
		arena.Copy(n)
		arena.Size(n)
		arena.Deep(n)
		for i := range 4 {
			arena.At(n, path[:i])
			arena.Put(n, path[:i], sub)
			arena.Put(sub, path[:i], n)
			arena.Put(n, path[:i], nil)
		}
		for _, l := range arena.Paths(n, -1) {
			_ = append(l, 9)
		}
		if !kept() || !keptSub() || !slices.Equal(path, []int{1, 0, 5, 6}) {
			t.Error(path)
		}
	}
}

func TestOpenLeavesItsCells(t *testing.T) {
	kids := []int{0, 1, 5}
	cells := []api.Cell{{Kind: 1, Kids: kids[:0]}, {Kind: 2}, {Kind: 3, Kids: kids[:2]}, {Kind: 9}}
	n, e := arena.Open(api.Tree{Cells: cells[:3]})
	if e != api.OK || text(n, nil) != text(tree(3, leaf(1), leaf(2)), nil) {
		t.Error(text(n, nil), int(e))
	}
	refusesToOpen(t, cells, api.ErrForm)
	if !slices.Equal(kids, []int{0, 1, 5}) || !sameCells(cells, []api.Cell{{Kind: 1}, {Kind: 2}, {Kind: 3, Kids: []int{0, 1}}, {Kind: 9}}) {
		t.Error(kids, cells)
	}
	kids[0], kids[1], cells[0].Kind = 1, 0, 8
	if text(n, nil) != text(tree(3, leaf(1), leaf(2)), nil) {
		t.Error("the tree is made of the cells' memory")
	}
}

func TestPackHandsOutListsOfTheirOwn(t *testing.T) {
	n := tree(1, tree(2, leaf(3), leaf(4)), tree(2, leaf(3), leaf(4)))
	kept := freeze(n)
	p, _ := arena.Pack(n)
	want := packed(n)
	for i, c := range p.Cells {
		_ = append(c.Kids, 77)
		for j := range c.Kids {
			c.Kids[j] = 78
		}
		copy(c.Kids, want[i].Kids)
		if !sameCells(p.Cells, want) || !kept() {
			t.Fatal(p)
		}
	}
	clear(p.Cells)
	if q, e := arena.Pack(n); e != api.OK || !sameCells(q.Cells, want) {
		t.Error(q, int(e))
	}
}

// Trees of few nodes at very many places are answered for without going to each place.
func TestFewNodesAtVeryManyPlaces(t *testing.T) {
	for _, n := range []int{40, 62, 63, 64, 65, 200} {
		x, y := shared(n), shared(n)
		refusesToPack(t, x, api.ErrLong)
		if !arena.Same(x, y) || arena.Same(x, shared(n-1)) || arena.Deep(x) != n+1 {
			t.Error(n)
		}
		if n > 61 && arena.Size(x) != math.MaxInt {
			t.Error(n, arena.Size(x))
		}
		path := make([]int, n)
		low, _ := arena.At(y, path)
		if q, e := arena.Put(x, path, leaf(9)); e != api.OK || arena.Same(q, x) {
			t.Error(n, int(e))
		}
		low.Kids = []*api.Node{nil}
		refusesToPack(t, y, api.ErrNil)
		if arena.Same(x, y) || arena.Same(y, x) {
			t.Error(n)
		}
	}
}

// Of trees that lie in themselves no more is promised than that each call ends.
func TestCallsEndOnTreesThatLieInThemselves(t *testing.T) {
	for _, n := range []*api.Node{knot(1), knot(2), knot(7), knot(1000), tree(1, knot(3), nil), tree(1, comb(1<<17), knot(4))} {
		arena.Pack(n)
		arena.Copy(n)
		arena.Size(n)
		arena.Deep(n)
		arena.Paths(n, -1)
		arena.Paths(n, 5)
		arena.At(n, make([]int, 1<<16))
		arena.Put(n, make([]int, 1<<10), leaf(1))
		for _, m := range []*api.Node{knot(1), knot(3), knot(6), tree(1, comb(1<<17), knot(4)), n} {
			arena.Same(n, m)
			arena.Same(m, n)
		}
	}
}

// P4.1 to P4.4 know no bound of a text in a node, nor of a number.
func TestTextsOfAnyLength(t *testing.T) {
	n := tree(1, &api.Node{Kind: 2, Name: strings.Repeat("\xff", 1<<20), Mark: strings.Repeat("a.", 1<<19)})
	p := packs(t, n, packed(n))
	opens(t, p.Cells)
	if !arena.Same(n, arena.Copy(n)) {
		t.Error("copy")
	}
}
