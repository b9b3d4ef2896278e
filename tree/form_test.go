package tree_test

import (
	"math"
	"math/rand"
	"slices"
	"testing"

	"tollbar/api"
	"tollbar/samples"
	"tollbar/tree"
)

// P17.1's May, against the words of the chapter.

// below gives the items at and below a place of a tree in which all places hang just once.
func below(x api.Tree, at int) []api.Item {
	if at < 0 {
		return nil
	}
	n := x.Nodes[at]
	return slices.Concat(below(x, n.Left), []api.Item{n.Item}, below(x, n.Right))
}

// high gives how high what hangs at a place stands, counted anew.
func high(x api.Tree, at int) int {
	if at < 0 {
		return 0
	}
	return 1 + max(high(x, x.Nodes[at].Left), high(x, x.Nodes[at].Right))
}

// fault tells which of the chapter's words a tree breaks, if any.
func fault(x api.Tree) string {
	if len(x.Nodes) > api.MaxNodes {
		return "too many Nodes"
	}
	if why := astray(x); why != "" {
		return why
	}
	for at, n := range x.Nodes {
		if slices.Contains(x.Free, at) {
			if n != (api.Node{}) {
				return "in Free, not 0"
			}
			continue
		}
		if n.From < 0 || n.From >= n.To || n.To > api.MaxTime {
			return "no span"
		}
		if n.Id < 0 || n.Id > great {
			return "no rate"
		}
	}
	for at, n := range x.Nodes {
		if slices.Contains(x.Free, at) {
			continue
		}
		if why := crooked(x, n); why != "" {
			return why
		}
	}
	return ""
}

// astray tells what is wrong about the places of a tree, if anything.
func astray(x api.Tree) string {
	free, hung := make([]int, len(x.Nodes)), make([]int, len(x.Nodes))
	for _, at := range x.Free {
		if at < 0 || at >= len(free) {
			return "in Free, no place"
		}
		free[at]++
	}
	row := []int{x.Root}
	for k := 0; k < len(row); k++ {
		at := row[k]
		if at == -1 {
			continue
		}
		if at < 0 || at >= len(hung) {
			return "hung, no place"
		}
		hung[at]++
		if hung[at] == 1 {
			row = append(row, x.Nodes[at].Left, x.Nodes[at].Right)
		}
	}
	for at := range x.Nodes {
		switch {
		case free[at] > 1:
			return "in Free twice"
		case hung[at] > 1:
			return "hung twice"
		case free[at] == 1 && hung[at] == 1:
			return "in Free and hung"
		case free[at] == 0 && hung[at] == 0:
			return "in neither"
		}
	}
	return ""
}

// crooked tells what is wrong about how a Node hangs, if anything.
func crooked(x api.Tree, n api.Node) string {
	ahead, behind, furthest := below(x, n.Left), below(x, n.Right), n.To
	for _, it := range ahead {
		if byRow(it, n.Item) >= 0 {
			return "Left is not ahead"
		}
		furthest = max(furthest, it.To)
	}
	for _, it := range behind {
		if byRow(it, n.Item) <= 0 {
			return "Right is not behind"
		}
		furthest = max(furthest, it.To)
	}
	left, right := high(x, n.Left), high(x, n.Right)
	switch {
	case left-right > 1 || right-left > 1:
		return "Heights unlike"
	case n.Height != 1+max(left, right):
		return "a wrong Height"
	case n.Most != furthest:
		return "a wrong Most"
	}
	return ""
}

// spoilt is a tree that may not be, and why.
type spoilt struct {
	name string
	x    api.Tree
}

// copied gives a tree in memory of its own.
func copied(x api.Tree) api.Tree {
	return api.Tree{Nodes: slices.Clone(x.Nodes), Root: x.Root, Free: slices.Clone(x.Free)}
}

// good: eight items, places 7 and 9 in Free; place 3 on top, 1 and 5 below it; 6 below 5 has only 8 on its Right.
func good() api.Tree {
	for _, s := range many() {
		if s.name == "thin" {
			return s.x
		}
	}
	return api.Tree{}
}

// bad: trees that may not be, for each of the chapter's reasons.
func bad() []spoilt {
	return slices.Concat(badPlaces(), badNodes(), badRows(), badHeights())
}

// turned gives the good tree with one thing turned.
func turned(name string, how func(x *api.Tree)) spoilt {
	x := copied(good())
	how(&x)
	return spoilt{name, x}
}

// badPlaces: places that hang or lie where they may not.
func badPlaces() []spoilt {
	one := leaf(in(3, 7, 5))
	many := make([]api.Node, 100000)
	bads := []spoilt{
		{"hung, no place", api.Tree{}},
		{"hung, no place", api.Tree{Root: math.MaxInt}},
		{"in neither", api.Tree{Nodes: []api.Node{one}, Root: -1}},
		{"in neither", api.Tree{Nodes: []api.Node{{}}, Root: -1}},
		{"in neither", api.Tree{Nodes: []api.Node{one, {}}, Root: 0}},
		{"in Free, no place", api.Tree{Root: -1, Free: []int{0}}},
		{"in Free, no place", api.Tree{Root: -1, Free: []int{-1}}},
		{"in Free twice", api.Tree{Nodes: []api.Node{{}}, Root: -1, Free: []int{0, 0}}},
		{"in Free twice", api.Tree{Nodes: []api.Node{{}}, Root: -1, Free: make([]int, 100000)}},
		{"in Free and hung", api.Tree{Nodes: []api.Node{one}, Root: 0, Free: []int{0}}},
		{"in Free and hung", api.Tree{Nodes: []api.Node{on(api.Item{}, -1, -1, 0, 0)}, Root: 0, Free: []int{0}}},
		{"too many Nodes", api.Tree{Nodes: many[:api.MaxNodes+1], Root: -1, Free: mixed(api.MaxNodes+1, 1)}},
		{"too many Nodes", api.Tree{Nodes: many, Root: -1, Free: mixed(len(many), 1)}},
		{"hung twice", api.Tree{Nodes: []api.Node{on(in(3, 7, 5), 0, -1, 2, 7)}, Root: 0}},
		{"hung twice", api.Tree{Nodes: []api.Node{on(in(3, 7, 5), -1, 0, 2, 7)}, Root: 0}},
		{"hung twice", api.Tree{Nodes: []api.Node{on(in(1, 9, 1), -1, 1, 2, 9), on(in(2, 9, 1), 0, -1, 2, 9)}, Root: 0}},
		{"hung twice", api.Tree{Nodes: []api.Node{leaf(in(1, 9, 1)), on(in(2, 9, 1), 0, 0, 2, 9)}, Root: 1}},
		// A circle beside what hangs: no place is hung twice below Root.
		{"in neither", api.Tree{Nodes: []api.Node{one, on(in(1, 9, 1), -1, 2, 2, 9), on(in(2, 9, 1), 1, -1, 2, 9)}, Root: 0}},
	}
	var above []api.Item
	for i := range api.MaxNodes + 1 {
		above = append(above, in(i, i+1, 0))
	}
	bads = append(bads, spoilt{"too many Nodes", lay(halved(api.MaxNodes+1), above, mixed(api.MaxNodes+1, 1), api.MaxNodes+1)})
	for _, no := range []int{-2, 10, 11, math.MinInt, math.MaxInt, -api.MaxNodes} {
		bads = append(bads,
			turned("hung, no place", func(x *api.Tree) { x.Root = no }),
			turned("hung, no place", func(x *api.Tree) { x.Nodes[6].Left = no }),
			turned("hung, no place", func(x *api.Tree) { x.Nodes[0].Right = no }),
			turned("in Free, no place", func(x *api.Tree) { x.Free[1] = no }),
			turned("in Free, no place", func(x *api.Tree) { x.Free = append(x.Free, no) }),
		)
	}
	return append(bads,
		turned("in Free, no place", func(x *api.Tree) { x.Free[0] = -1 }),
		turned("in neither", func(x *api.Tree) { x.Free = x.Free[:1] }),
		turned("in neither", func(x *api.Tree) { x.Free = nil }),
		turned("in neither", func(x *api.Tree) { x.Root = -1 }),
		turned("in neither", func(x *api.Tree) { x.Root = 5 }),
		turned("in neither", func(x *api.Tree) { x.Nodes[3].Left = -1 }),
		turned("in Free twice", func(x *api.Tree) { x.Free = []int{9, 7, 9} }),
		turned("in Free twice", func(x *api.Tree) { x.Free[0] = 7 }),
		turned("in Free and hung", func(x *api.Tree) { x.Free = append(x.Free, 4) }),
		turned("in Free and hung", func(x *api.Tree) { x.Nodes[0].Left, x.Nodes[9] = 9, leaf(in(0, 1, 1)) }),
		turned("hung twice", func(x *api.Tree) { x.Nodes[6].Left = 4 }),
		turned("hung twice", func(x *api.Tree) { x.Nodes[8].Right = 3 }),
		turned("hung twice", func(x *api.Tree) { x.Nodes[8].Left = 8 }),
	)
}

// badNodes: Nodes with a field that may not be so.
func badNodes() []spoilt {
	var bads []spoilt
	for _, at := range []int{7, 9} {
		for _, no := range []int{-1, 1, math.MaxInt, math.MinInt} {
			for _, field := range fields(api.Tree{Nodes: make([]api.Node, 10)}, at) {
				bads = append(bads, turned("in Free, not 0", func(x *api.Tree) { *field(x) = no }))
			}
		}
		bads = append(bads, turned("in Free, not 0", func(x *api.Tree) { x.Nodes[at] = on(api.Item{}, -1, -1, 0, 0) }))
	}
	for _, at := range []int{0, 2, 3, 4, 6, 8} {
		for _, s := range wrongSpans {
			bads = append(bads, turned("no span", func(x *api.Tree) { x.Nodes[at].Span = s }))
		}
		for _, id := range wrongIds {
			bads = append(bads, turned("no rate", func(x *api.Tree) { x.Nodes[at].Id = id }))
		}
	}
	for _, it := range wrongItems() {
		bads = append(bads, spoilt{"an item that may not be", api.Tree{Nodes: []api.Node{leaf(it)}, Root: 0}})
	}
	return bads
}

// fields gives all fields of the Node at a place.
func fields(x api.Tree, at int) []func(x *api.Tree) *int {
	return []func(x *api.Tree) *int{
		func(x *api.Tree) *int { return &x.Nodes[at].From },
		func(x *api.Tree) *int { return &x.Nodes[at].To },
		func(x *api.Tree) *int { return &x.Nodes[at].Id },
		func(x *api.Tree) *int { return &x.Nodes[at].Left },
		func(x *api.Tree) *int { return &x.Nodes[at].Right },
		func(x *api.Tree) *int { return &x.Nodes[at].Height },
		func(x *api.Tree) *int { return &x.Nodes[at].Most },
	}
}

// badRows: items that are not where their row asks for them.
func badRows() []spoilt {
	a, b, c := in(4, 6, 1), in(4, 6, 2), in(4, 7, 0)
	top := on(b, 0, 2, 2, 7)
	bads := []spoilt{
		{"Right is not behind", api.Tree{Nodes: []api.Node{on(b, -1, 1, 2, 6), leaf(a)}, Root: 0}},
		{"Left is not ahead", api.Tree{Nodes: []api.Node{on(a, 1, -1, 2, 6), leaf(b)}, Root: 0}},
		{"Right is not behind", api.Tree{Nodes: []api.Node{on(b, -1, 1, 2, 6), leaf(b)}, Root: 0}},
		{"Left is not ahead", api.Tree{Nodes: []api.Node{on(b, 1, -1, 2, 6), leaf(b)}, Root: 0}},
		{"Right is not behind", api.Tree{Nodes: []api.Node{on(c, -1, 1, 2, 7), leaf(a)}, Root: 0}},
		{"Left is not ahead", api.Tree{Nodes: []api.Node{leaf(c), top, leaf(c)}, Root: 1}},
		{"Right is not behind", api.Tree{Nodes: []api.Node{leaf(a), on(b, 0, 2, 2, 6), leaf(a)}, Root: 1}},
	}
	// Each item is right beside those just below it, but not beside all that hang further down.
	far := api.Tree{Nodes: []api.Node{
		leaf(in(1, 2, 0)), on(in(2, 3, 0), 0, 2, 2, 10), leaf(in(9, 10, 0)), on(in(5, 6, 0), 1, 5, 3, 10), leaf(in(6, 7, 0)), on(in(7, 8, 0), 4, 6, 2, 9), leaf(in(8, 9, 0)),
	}, Root: 3}
	near := copied(far)
	near.Nodes[2], near.Nodes[1].Most = leaf(in(3, 4, 0)), 4
	near.Nodes[4] = leaf(in(4, 7, 0))
	near.Nodes[3].Most = 9
	return append(bads, spoilt{"Left is not ahead", far}, spoilt{"Right is not behind", near})
}

// badHeights: Heights and Mosts that are not as what hangs there asks for.
func badHeights() []spoilt {
	a, b, c, d := in(1, 9, 1), in(2, 3, 1), in(2, 4, 1), in(5, 7, 0)
	bads := []spoilt{
		{"Heights unlike", api.Tree{Nodes: []api.Node{on(a, -1, 1, 3, 9), on(b, -1, 2, 2, 4), leaf(c)}, Root: 0}},
		{"Heights unlike", api.Tree{Nodes: []api.Node{leaf(a), on(b, 0, -1, 2, 9), on(c, 1, -1, 3, 9)}, Root: 2}},
		{"Heights unlike", api.Tree{Nodes: []api.Node{on(a, -1, 2, 3, 9), leaf(b), on(c, 1, -1, 2, 4)}, Root: 0}},
		// Heights that would be alike, if they were believed.
		{"a wrong Height", api.Tree{Nodes: []api.Node{leaf(b), on(c, 0, 2, 3, 7), on(d, -1, -1, 2, 7)}, Root: 1}},
		{"a wrong Height", api.Tree{Nodes: []api.Node{on(a, -1, -1, math.MaxInt, 9), on(b, 0, -1, math.MinInt, 9)}, Root: 1}},
		{"a wrong Height", api.Tree{Nodes: []api.Node{on(a, -1, -1, 0, 9), on(b, 0, -1, 1, 9)}, Root: 1}},
		{"Heights unlike", api.Tree{Nodes: []api.Node{on(a, -1, 1, 2, 9), on(b, -1, 2, 1, 4), on(c, -1, -1, 0, 4)}, Root: 0}},
	}
	for _, at := range []int{0, 1, 3, 6, 8} {
		for _, by := range []int{-1, 1, -9, 9} {
			bads = append(bads,
				turned("a wrong Height", func(x *api.Tree) { x.Nodes[at].Height += by }),
				turned("a wrong Most", func(x *api.Tree) { x.Nodes[at].Most += by }),
			)
		}
		for _, no := range []int{0, -1, math.MinInt, math.MaxInt} {
			bads = append(bads,
				turned("a wrong Height", func(x *api.Tree) { x.Nodes[at].Height = no }),
				turned("a wrong Most", func(x *api.Tree) { x.Nodes[at].Most = no }),
			)
		}
	}
	// Its own To, that of its Left, and that of its Right alone.
	return append(bads,
		turned("a wrong Most", func(x *api.Tree) { x.Nodes[1].Most = x.Nodes[1].To }),
		turned("a wrong Most", func(x *api.Tree) { x.Nodes[3].Most = x.Nodes[1].Most }),
		turned("a wrong Most", func(x *api.Tree) { x.Nodes[5].Most = x.Nodes[5].To }),
	)
}

// The words of the chapter themselves: a tree that breaks one of them is found out, by that one.
func TestFault(t *testing.T) {
	count := map[string]int{}
	for _, b := range bad() {
		got := fault(b.x)
		count[got]++
		if got != b.name && (b.name != "an item that may not be" || got != "no span" && got != "no rate") {
			t.Errorf("%v: %q, want %q", b.x, got, b.name)
		}
	}
	if len(count) != 15 {
		t.Errorf("only %v", count)
	}
}

// heldMay holds May against the words of the chapter, and tells whether the tree may be.
func heldMay(t *testing.T, x api.Tree) bool {
	t.Helper()
	why := fault(x)
	if tree.May(x) != (why == "") {
		t.Fatalf("May(%v): %v; %q", x, tree.May(x), why)
	}
	return why == ""
}

// Each number of each sample turned to each of some.
func TestEachNumberTurned(t *testing.T) {
	may, not := 0, 0
	for _, s := range all() {
		turns := []func(x *api.Tree) *int{func(x *api.Tree) *int { return &x.Root }}
		for at := range s.x.Nodes {
			turns = append(turns, fields(s.x, at)...)
		}
		for k := range s.x.Free {
			turns = append(turns, func(x *api.Tree) *int { return &x.Free[k] })
		}
		for _, turn := range turns {
			for _, no := range []int{math.MinInt, -2, -1, 0, 1, 2, 3, 4, 5, 6, 7, 8, 9, 10, 12, 13, 31, 32, api.MaxTime, api.MaxTime + 1, great, great + 1, math.MaxInt} {
				x := copied(s.x)
				*turn(&x) = no
				if heldMay(t, x) {
					may++
				} else {
					not++
				}
			}
		}
	}
	if may < 1000 || not < 10000 {
		t.Errorf("only %d may be, %d may not", may, not)
	}
}

// All trees of up to two places, of a few numbers each.
func TestAllSmallTrees(t *testing.T) {
	may := 0
	links := []int{-2, -1, 0, 1, 2}
	a, b := in(1, 2, 0), in(1, 3, 0)
	for _, items := range [][]api.Item{nil, {a}, {{}}, {a, b}, {b, a}, {a, a}, {a, {}}, {{}, b}, {{}, {}}} {
		for _, ends := range samples.Lists(links, 2*len(items)) {
			if len(ends) < 2*len(items) {
				continue
			}
			for heights := range 3 << len(items) {
				x := api.Tree{}
				for i, it := range items {
					height := heights % 3
					if i == 1 {
						height = heights / 3
					}
					x.Nodes = append(x.Nodes, on(it, ends[2*i], ends[2*i+1], height, min(it.To, 1)*(1+height)))
				}
				for _, free := range samples.Lists([]int{-1, 0, 1, 2}, 2) {
					for _, root := range links {
						x.Root, x.Free = root, free
						if heldMay(t, x) {
							may++
						}
					}
				}
			}
		}
	}
	if may < 8 {
		t.Errorf("only %d may be", may)
	}
}

// Samples with a few numbers turned at a time, to such as stand elsewhere in them.
func TestWhateverIsTurned(t *testing.T) {
	r := rand.New(rand.NewSource(17))
	ss, may, not := all(), 0, 0
	for range 100000 {
		x := copied(ss[r.Intn(len(ss))].x)
		for range 1 + r.Intn(3) {
			jumble(r, &x)
		}
		if heldMay(t, x) {
			may++
		} else {
			not++
		}
	}
	if may < 5000 || not < 40000 {
		t.Errorf("only %d may be, %d may not", may, not)
	}
}

// jumble turns one thing of a tree.
func jumble(r *rand.Rand, x *api.Tree) {
	if len(x.Nodes) == 0 {
		x.Root = r.Intn(3) - 2
		return
	}
	a, b := r.Intn(len(x.Nodes)), r.Intn(len(x.Nodes))
	switch r.Intn(7) {
	case 0:
		x.Nodes[a], x.Nodes[b] = x.Nodes[b], x.Nodes[a]
	case 1:
		x.Nodes[a].Left, x.Nodes[a].Right = x.Nodes[a].Right, x.Nodes[a].Left
	case 2:
		x.Nodes[a].Left, x.Nodes[b].Left = x.Nodes[b].Left, x.Nodes[a].Left
	case 3:
		x.Nodes[a].Id = r.Intn(9)
	case 4:
		*fields(*x, a)[r.Intn(7)](x) += r.Intn(3) - 1
	case 5:
		x.Nodes[a].Item, x.Nodes[b].Item = x.Nodes[b].Item, x.Nodes[a].Item
	default:
		r.Shuffle(len(x.Free), func(i, j int) { x.Free[i], x.Free[j] = x.Free[j], x.Free[i] })
	}
}
