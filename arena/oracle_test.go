package arena_test

import (
	"slices"
	"strconv"
	"strings"

	"marquetry/api"
)

// oracle_test.go writes trees and lists of cells as texts, and tells places in trees, in ways of its own: it shares nothing with the package.

func leaf(kind int) *api.Node { return &api.Node{Kind: kind} }

func tree(kind int, kids ...*api.Node) *api.Node { return &api.Node{Kind: kind, Kids: kids} }

// text writes all of a tree, with - for nil; what stands in instead has the texts that stand for the nodes at those paths.
func text(n *api.Node, instead map[string]string) string {
	var b strings.Builder
	write(&b, n, "", instead)
	return b.String()
}

func write(b *strings.Builder, n *api.Node, path string, instead map[string]string) {
	if s, ok := instead[path]; ok {
		b.WriteString(s)
		return
	}
	if n == nil {
		b.WriteString("-")
		return
	}
	b.WriteString(strconv.Itoa(n.Kind) + " " + strconv.Itoa(n.N) + strconv.Quote(n.Name) + strconv.Quote(n.Mark) + "(")
	for i, kid := range n.Kids {
		below := ""
		if instead != nil {
			below = path + "/" + strconv.Itoa(i)
		}
		write(b, kid, below, instead)
		b.WriteString(",")
	}
	b.WriteString(")")
}

// pathText is the key of a path, as text asks for it.
func pathText(path []int) string {
	s := ""
	for _, i := range path {
		s += "/" + strconv.Itoa(i)
	}
	return s
}

// places tells the paths of all nodes in order, and what stands at each; they are found level by level, and sorted.
func places(n *api.Node) ([][]int, map[string]*api.Node) {
	var paths [][]int
	at := map[string]*api.Node{}
	if n == nil {
		return paths, at
	}
	paths, at[""] = [][]int{{}}, n
	for next := 0; next < len(paths); next++ {
		path := paths[next]
		for i, kid := range at[pathText(path)].Kids {
			if kid != nil {
				below := slices.Concat(path, []int{i})
				paths, at[pathText(below)] = append(paths, below), kid
			}
		}
	}
	slices.SortFunc(paths, slices.Compare)
	return paths, at
}

// depth tells how many nodes lie above one another, by the longest path.
func depth(n *api.Node) int {
	paths, _ := places(n)
	deep := 0
	for _, path := range paths {
		deep = max(deep, len(path)+1)
	}
	return deep
}

func hasGap(n *api.Node) bool { return strings.Contains(text(n, nil), "-") }

// packed tells a whole tree's cells from behind: a node, then its kids from the last one on; all is turned round at last.
func packed(n *api.Node) []api.Cell {
	var back []*api.Node
	for todo := []*api.Node{n}; len(todo) > 0; {
		last := todo[len(todo)-1]
		back = append(back, last)
		todo = append(todo[:len(todo)-1], last.Kids...)
	}
	slices.Reverse(back)
	cells := make([]api.Cell, len(back))
	var roots []int // of what is done: those that no node has as kids yet
	for i, x := range back {
		kids := slices.Clone(roots[len(roots)-len(x.Kids):])
		roots = append(roots[:len(roots)-len(x.Kids)], i)
		cells[i] = api.Cell{Kind: x.Kind, N: x.N, Name: x.Name, Mark: x.Mark, Kids: kids}
	}
	return cells
}

func sameCells(a, b []api.Cell) bool {
	return slices.EqualFunc(a, b, func(x, y api.Cell) bool {
		return x.Kind == y.Kind && x.N == y.N && x.Name == y.Name && x.Mark == y.Mark && slices.Equal(x.Kids, y.Kids)
	})
}

// opened tells what Open should answer, as a text.
func opened(cells []api.Cell) (string, api.Errno) {
	switch {
	case len(cells) == 0:
		return "-", api.ErrNil
	case len(cells) > 8192:
		return "-", api.ErrLong
	}
	var kids []int
	for i, c := range cells {
		for _, kid := range c.Kids {
			if kid >= i {
				return "-", api.ErrForm
			}
			kids = append(kids, kid)
		}
	}
	slices.Sort(kids)
	if len(kids) != len(cells)-1 {
		return "-", api.ErrForm
	}
	for i, kid := range kids {
		if kid != i {
			return "-", api.ErrForm
		}
	}
	texts := make([]string, len(cells))
	for i, c := range cells {
		below := ""
		for _, kid := range c.Kids {
			below += texts[kid] + ","
		}
		texts[i] = text(&api.Node{Kind: c.Kind, N: c.N, Name: c.Name, Mark: c.Mark}, nil)
		texts[i] = texts[i][:len(texts[i])-1] + below + ")"
	}
	return texts[len(texts)-1], api.OK
}

// smallTrees tells all trees of kinds 1 and 2 with up to n nodes, in which nil counts as a node. Many of them have one node at many places.
func smallTrees(n int) []*api.Node {
	trees := [][]*api.Node{nil, {nil, leaf(1), leaf(2)}}
	rows := [][][]*api.Node{{nil}}
	for size := 1; size < n; size++ {
		rows = append(rows, nil)
		for first := 1; first <= size; first++ {
			for _, x := range trees[first] {
				for _, rest := range rows[size-first] {
					rows[size] = append(rows[size], slices.Concat([]*api.Node{x}, rest))
				}
			}
		}
		trees = append(trees, nil)
		for _, row := range rows[size] {
			trees[size+1] = append(trees[size+1], tree(1, row...), tree(2, row...))
		}
	}
	return slices.Concat(trees...)
}

// wholeTrees are small ones without a nil, and some with texts and numbers.
func wholeTrees() []*api.Node {
	l := slices.DeleteFunc(smallTrees(6), hasGap)
	return append(l, richTree(), wide(9), tower(9), comb(9), shared(4), tree(0), tree(-7, leaf(0)),
		&api.Node{Kind: 1 << 40, N: -1 << 40, Name: "\xff\x00", Mark: strings.Repeat("a", 1<<10)})
}

// richTree has nodes in which each field has a value.
func richTree() *api.Node {
	x := &api.Node{Kind: 4, N: -1 << 63, Name: "a.t", Mark: "m"}
	y := &api.Node{Kind: -4, N: 1<<63 - 1, Name: "\u00e9", Mark: "-(,)\"", Kids: []*api.Node{}}
	z := &api.Node{Kind: 1<<63 - 1, N: 3, Name: "", Mark: "\xff", Kids: []*api.Node{x, leaf(-1 << 63), y}}
	return &api.Node{Kind: 0, N: 1, Name: "x", Kids: []*api.Node{leaf(7), z, tree(3, tree(4, leaf(5)))}}
}

// wide, tower and comb are trees of n nodes: a root with the others as its kids; one above the other; a tower of nodes with a leaf each.
func wide(n int) *api.Node {
	root := leaf(1)
	for i := range n - 1 {
		root.Kids = append(root.Kids, &api.Node{Kind: 2, N: i})
	}
	return root
}

func tower(n int) *api.Node {
	top := &api.Node{Kind: 1, N: n}
	for i := range n - 1 {
		top = &api.Node{Kind: 3, N: i, Kids: []*api.Node{top}}
	}
	return top
}

func comb(n int) *api.Node {
	top := leaf(1)
	for i := 3; i <= n; i += 2 {
		top = &api.Node{Kind: 3, N: i, Kids: []*api.Node{top, leaf(2)}}
	}
	if n%2 == 0 {
		top = tree(4, top)
	}
	return top
}

// shared is a tree of 2^(n+1)-1 nodes of which each below the root stands at two places of the one above, or more.
func shared(n int) *api.Node {
	x := &api.Node{Kind: 1, Name: "a"}
	for i := range n {
		x = &api.Node{Kind: 2, N: i, Kids: []*api.Node{x, x}}
	}
	return x
}

// knot is a tree that lies in itself: what it is of is n nodes long.
func knot(n int) *api.Node {
	top := tower(n)
	last := top
	for len(last.Kids) > 0 {
		last = last.Kids[0]
	}
	last.Kids = []*api.Node{top, leaf(2)}
	return top
}

// guarded gives each list of kids in a tree something behind its length.
func guarded(n *api.Node) *api.Node {
	if n == nil {
		return nil
	}
	x := *n
	x.Kids = []*api.Node{}
	for _, kid := range n.Kids {
		x.Kids = append(x.Kids, guarded(kid))
	}
	x.Kids = append(x.Kids, trap(), nil, trap())[:len(n.Kids)]
	return &x
}

func trap() *api.Node { return &api.Node{Kind: 99, Name: "behind", Kids: []*api.Node{leaf(99)}} }

// freeze tells a question: whether a tree is what it was now, node by node, with what stands behind its lists.
func freeze(n *api.Node) func() bool {
	nodes := map[*api.Node]api.Node{}
	lists := map[*api.Node][]*api.Node{}
	var walk func(n *api.Node)
	walk = func(n *api.Node) {
		if n == nil || nodes[n].Kids != nil {
			return
		}
		nodes[n] = *n
		lists[n] = slices.Clone(n.Kids[:cap(n.Kids)])
		for _, kid := range lists[n] {
			walk(kid)
		}
	}
	walk(n)
	return func() bool {
		for x, was := range nodes {
			if x.Kind != was.Kind || x.N != was.N || x.Name != was.Name || x.Mark != was.Mark || len(x.Kids) != len(was.Kids) || !slices.Equal(x.Kids[:cap(x.Kids)], lists[x]) {
				return false
			}
		}
		return true
	}
}

// nodesOf tells the nodes of a tree, one for each place.
func nodesOf(n *api.Node) []*api.Node {
	if n == nil {
		return nil
	}
	l := []*api.Node{n}
	for _, kid := range n.Kids {
		l = append(l, nodesOf(kid)...)
	}
	return l
}
