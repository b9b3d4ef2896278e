package tree_test

import (
	"cmp"
	"fmt"
	"math"
	"slices"
	"testing"

	"tollbar/api"
	"tollbar/samples"
	"tollbar/tree"
)

const great = api.MaxRate

// in is an item.
func in(from int, to int, id int) api.Item {
	return api.Item{Span: api.Span{From: from, To: to}, Id: id}
}

// on is a Node.
func on(it api.Item, left int, right int, height int, most int) api.Node {
	return api.Node{Item: it, Left: left, Right: right, Height: height, Most: most}
}

// leaf is a Node with none below it.
func leaf(it api.Item) api.Node {
	return on(it, -1, -1, 1, it.To)
}

// byRow holds items against each other: From, then To, then Id.
func byRow(a api.Item, b api.Item) int {
	return cmp.Or(cmp.Compare(a.From, b.From), cmp.Compare(a.To, b.To), cmp.Compare(a.Id, b.Id))
}

// inRow gives the items in their row.
func inRow(items []api.Item) []api.Item {
	row := slices.Clone(items)
	slices.SortFunc(row, byRow)
	return row
}

// sample is a tree that may be, and its items in their row.
type sample struct {
	name  string
	x     api.Tree
	items []api.Item
}

// bare: trees without items.
func bare() []sample {
	var up, down []int
	for at := range api.MaxNodes {
		up, down = append(up, at), append(down, api.MaxNodes-1-at)
	}
	return []sample{
		{"nothing", api.Tree{Root: -1}, nil},
		{"empty lists", api.Tree{Nodes: []api.Node{}, Root: -1, Free: []int{}}, nil},
		{"a place in Free", api.Tree{Nodes: make([]api.Node, 1), Root: -1, Free: []int{0}}, nil},
		{"three places in Free", api.Tree{Nodes: make([]api.Node, 3), Root: -1, Free: []int{1, 2, 0}}, nil},
		{"all places in Free, rising", api.Tree{Nodes: make([]api.Node, api.MaxNodes), Root: -1, Free: up}, nil},
		{"all places in Free, falling", api.Tree{Nodes: make([]api.Node, api.MaxNodes), Root: -1, Free: down}, nil},
	}
}

// single: trees of one item.
func single() []sample {
	var all []sample
	for _, it := range []api.Item{
		in(3, 7, 5), in(0, 1, 0), in(0, 1, great), in(0, api.MaxTime, 0), in(0, api.MaxTime, great),
		in(api.MaxTime-1, api.MaxTime, 1), in(7, 8, great-1),
	} {
		all = append(all,
			sample{"alone", api.Tree{Nodes: []api.Node{leaf(it)}, Root: 0}, []api.Item{it}},
			sample{"alone, ahead of one in Free", api.Tree{Nodes: []api.Node{leaf(it), {}}, Root: 0, Free: []int{1}}, []api.Item{it}},
			sample{"alone, between two in Free", api.Tree{Nodes: []api.Node{{}, leaf(it), {}}, Root: 1, Free: []int{2, 0}}, []api.Item{it}},
		)
	}
	return all
}

// few: trees of two and three items, all ways in which they may hang.
func few() []sample {
	a, b, c := in(1, 9, 2), in(2, 4, 1), in(2, 4, 3)
	two, three := []api.Item{a, b}, []api.Item{a, b, c}
	return []sample{
		{"one on the Left", api.Tree{Nodes: []api.Node{leaf(a), on(b, 0, -1, 2, 9)}, Root: 1}, two},
		{"one on the Left, the other places", api.Tree{Nodes: []api.Node{on(b, 1, -1, 2, 9), leaf(a)}, Root: 0}, two},
		{"one on the Right", api.Tree{Nodes: []api.Node{on(a, -1, 1, 2, 9), leaf(b)}, Root: 0}, two},
		{"one on the Right, places in Free", api.Tree{Nodes: []api.Node{{}, leaf(b), {}, on(a, -1, 1, 2, 9)}, Root: 3, Free: []int{0, 2}}, two},
		{"one on each", api.Tree{Nodes: []api.Node{leaf(a), on(b, 0, 2, 2, 9), leaf(c)}, Root: 1}, three},
		{"one on each, a place in Free", api.Tree{Nodes: []api.Node{leaf(c), leaf(a), {}, on(b, 1, 0, 2, 9)}, Root: 3, Free: []int{2}}, three},
	}
}

// alike: items that are told apart by To alone, or by Id alone.
func alike() []sample {
	byTo := []api.Item{in(4, 5, 9), in(4, 6, 0), in(4, api.MaxTime, great)}
	byId := []api.Item{in(4, 5, 0), in(4, 5, 1), in(4, 5, great)}
	return []sample{
		{"one From", api.Tree{Nodes: []api.Node{on(byTo[1], 1, 2, 2, api.MaxTime), leaf(byTo[0]), leaf(byTo[2])}, Root: 0}, byTo},
		{"one span", api.Tree{Nodes: []api.Node{leaf(byId[2]), on(byId[1], 2, 0, 2, 5), leaf(byId[0])}, Root: 1}, byId},
	}
}

// many: trees of more items, the greatest To at several places.
func many() []sample {
	row := []api.Item{in(0, 3, 1), in(1, 3, 0), in(1, 12, 7), in(2, 3, 7), in(2, 5, 7), in(6, 8, 0), in(9, 11, 4)}
	leftmost := api.Tree{Nodes: []api.Node{leaf(row[0]), on(row[1], 0, -1, 2, 3), on(row[2], 1, 3, 3, 12), leaf(row[3])}, Root: 2}
	rightmost := api.Tree{Nodes: []api.Node{leaf(row[6]), on(row[5], -1, 0, 2, 11), on(row[4], 3, 1, 3, 11), leaf(row[3])}, Root: 2}
	bent := api.Tree{Nodes: []api.Node{leaf(row[1]), on(row[0], -1, 0, 2, 3), on(row[2], 1, 3, 3, 12), leaf(row[3])}, Root: 2}
	thin := api.Tree{Nodes: []api.Node{
		leaf(row[0]), on(row[1], 0, 2, 2, 12), leaf(row[2]), on(row[3], 1, 5, 4, 12), leaf(row[4]), on(row[5], 4, 6, 3, 11), on(row[6], -1, 8, 2, 13), {}, leaf(in(10, 13, 1)), {},
	}, Root: 3, Free: []int{9, 7}}
	// What 5 has below it reaches further than itself.
	thin.Nodes[5].Most, thin.Nodes[3].Most = 13, 13
	whole := api.Tree{Nodes: []api.Node{
		leaf(row[6]), on(row[5], 2, 0, 2, 11), leaf(row[4]), on(row[3], 5, 1, 3, 12), leaf(row[2]), on(row[1], 6, 4, 2, 12), leaf(row[0]),
	}, Root: 3}
	return []sample{
		{"higher on the Left", leftmost, row[:4]},
		{"higher on the Left, bent", bent, row[:4]},
		{"higher on the Right", rightmost, row[3:]},
		{"thin", thin, append(slices.Clone(row), in(10, 13, 1))},
		{"whole", whole, row},
	}
}

// most: a tree of as many items as may be.
func most() sample {
	var items []api.Item
	for i := range api.MaxNodes {
		items = append(items, in(i/3, i/3+1+i%3, i))
	}
	return sample{"as many as may be", lay(halved(api.MaxNodes), items, mixed(api.MaxNodes, 11), api.MaxNodes), items}
}

// all: trees that may be.
func all() []sample {
	return append(slices.Concat(bare(), single(), few(), alike(), many()), most())
}

// limb is how Nodes hang, without items.
type limb struct {
	left  *limb
	right *limb
}

// high tells how high a limb stands.
func (l *limb) high() int {
	if l == nil {
		return 0
	}
	return 1 + max(l.left.high(), l.right.high())
}

// shapes gives all ways in which so many Nodes may hang.
func shapes(n int) []*limb {
	if n == 0 {
		return []*limb{nil}
	}
	var ways []*limb
	for left := range n {
		for _, l := range shapes(left) {
			for _, r := range shapes(n - 1 - left) {
				if lean := l.high() - r.high(); lean >= -1 && lean <= 1 {
					ways = append(ways, &limb{l, r})
				}
			}
		}
	}
	return ways
}

// halved gives one way in which so many Nodes may hang: on each side as many, or on the Right one more.
func halved(n int) *limb {
	if n == 0 {
		return nil
	}
	return &limb{halved((n - 1) / 2), halved(n / 2)}
}

// lay hangs items, that are in their row, at places, by the row of the items; the other ones of so many places are in Free, the last one first.
func lay(top *limb, items []api.Item, places []int, many int) api.Tree {
	x := api.Tree{Nodes: make([]api.Node, many)}
	k := 0
	var put func(l *limb) int
	put = func(l *limb) int {
		if l == nil {
			return -1
		}
		left := put(l.left)
		at, n := places[k], on(items[k], left, 0, l.high(), items[k].To)
		k++
		n.Right = put(l.right)
		for _, below := range []int{n.Left, n.Right} {
			if below >= 0 {
				n.Most = max(n.Most, x.Nodes[below].Most)
			}
		}
		x.Nodes[at] = n
		return at
	}
	x.Root = put(top)
	for at := many - 1; at >= 0; at-- {
		if !slices.Contains(places[:k], at) {
			x.Free = append(x.Free, at)
		}
	}
	return x
}

// mixed gives the numbers below n, each as many as step, round the end, from the one ahead of it; n and step have no part in common.
func mixed(n int, step int) []int {
	var row []int
	for i := range n {
		row = append(row, i*step%n)
	}
	return row
}

// spans: spans that may be, whose ends are at, ahead of and behind those of items.
func spans(items []api.Item) []api.Span {
	ends := []int{0, 1, api.MaxTime - 1, api.MaxTime}
	for _, it := range items {
		for by := -1; by <= 1; by++ {
			ends = append(ends, it.From+by, it.To+by)
		}
	}
	slices.Sort(ends)
	ends = slices.Compact(ends)
	var ss []api.Span
	for _, from := range ends {
		for _, to := range ends {
			if 0 <= from && from < to && to <= api.MaxTime {
				ss = append(ss, api.Span{From: from, To: to})
			}
		}
	}
	return ss
}

// P17.1: New and May.

func TestNew(t *testing.T) {
	x := tree.New()
	if !tree.May(x) || fault(x) != "" {
		t.Errorf("New: %v may not be", x)
	}
	held(t, x, nil, spans(nil))
}

func TestSamples(t *testing.T) {
	for _, s := range all() {
		if why := fault(s.x); why != "" {
			t.Errorf("%s: %v: %s", s.name, s.x, why)
		}
		if !slices.Equal(s.items, inRow(s.items)) {
			t.Errorf("%s: %v: not in their row", s.name, s.items)
		}
	}
}

func TestMay(t *testing.T) {
	for _, s := range all() {
		if !tree.May(s.x) {
			t.Errorf("%s: %v may be", s.name, s.x)
		}
	}
}

// P17.2, and P17.1's Insert and Delete, of each sample.

func TestOfSamples(t *testing.T) {
	for _, s := range all() {
		held(t, s.x, s.items, spans(s.items))
	}
}

func TestOneMoreAndOneLess(t *testing.T) {
	others := []api.Item{in(0, 1, 0), in(0, 1, 1), in(1, 9, 1), in(1, 9, 3), in(2, 4, 2), in(2, 4, 4), in(4, 5, 2), in(4, 5, great-1), in(5, 6, 0), in(7, 9, 3), in(3, api.MaxTime, great), in(api.MaxTime-1, api.MaxTime, great)}
	for _, s := range all() {
		ss := spans(s.items)
		for _, it := range slices.Concat(s.items, others) {
			x, items, _ := put(t, s.x, s.items, it)
			held(t, x, items, ss)
			x, items, _ = drop(t, s.x, s.items, it)
			held(t, x, items, ss)
			for _, next := range []api.Item{it, in(3, 5, 8)} {
				y, more, _ := put(t, x, items, next)
				held(t, y, more, nil)
			}
		}
	}
}

// What hangs at Root is taken out, with as much below it as may be said.
func TestWithoutRoot(t *testing.T) {
	below := map[int]int{}
	for _, s := range all() {
		if s.x.Root < 0 {
			continue
		}
		n := s.x.Nodes[s.x.Root]
		x, items, err := drop(t, s.x, s.items, n.Item)
		if err != api.OK || len(items) != len(s.items)-1 {
			t.Errorf("%s: Delete of %v: %d", s.name, n.Item, err)
		}
		held(t, x, items, spans(s.items))
		switch {
		case n.Left >= 0 && n.Right >= 0:
			below[2]++
		case n.Left >= 0 || n.Right >= 0:
			below[1]++
		default:
			below[0]++
		}
	}
	if below[0] < 20 || below[1] < 4 || below[2] < 9 {
		t.Errorf("only %v", below)
	}
}

// met is what is asked of a tree, and what is due.
type met struct {
	s      api.Span
	items  []api.Item
	points []int
}

func TestMeetsAndPoints(t *testing.T) {
	// Two touch at 4, two are one span, one lies in another, one is far off.
	a, b, c, d, e, f := in(1, 4, 1), in(4, 6, 1), in(4, 6, 2), in(2, 9, 5), in(9, 10, 0), in(20, api.MaxTime, great)
	x, items := tree.New(), []api.Item(nil)
	for _, it := range []api.Item{d, f, c, a, e, b} {
		x, items, _ = put(t, x, items, it)
	}
	for _, m := range []met{
		{api.Span{From: 0, To: 1}, nil, nil},
		{api.Span{From: 0, To: 2}, []api.Item{a}, []int{1}},
		{api.Span{From: 1, To: 2}, []api.Item{a}, nil},
		{api.Span{From: 1, To: 4}, []api.Item{a, d}, []int{2}},
		{api.Span{From: 3, To: 4}, []api.Item{a, d}, nil},
		{api.Span{From: 3, To: 5}, []api.Item{a, d, b, c}, []int{4}},
		{api.Span{From: 4, To: 5}, []api.Item{d, b, c}, nil},
		{api.Span{From: 4, To: 6}, []api.Item{d, b, c}, nil},
		{api.Span{From: 4, To: 7}, []api.Item{d, b, c}, []int{6}},
		{api.Span{From: 6, To: 9}, []api.Item{d}, nil},
		{api.Span{From: 6, To: 10}, []api.Item{d, e}, []int{9}},
		{api.Span{From: 9, To: 10}, []api.Item{e}, nil},
		{api.Span{From: 9, To: 11}, []api.Item{e}, []int{10}},
		{api.Span{From: 10, To: 20}, nil, nil},
		{api.Span{From: 10, To: 21}, []api.Item{f}, []int{20}},
		{api.Span{From: 10, To: api.MaxTime}, []api.Item{f}, []int{20}},
		{api.Span{From: api.MaxTime - 1, To: api.MaxTime}, []api.Item{f}, nil},
		{api.Span{From: 0, To: 12}, []api.Item{a, d, b, c, e}, []int{1, 2, 4, 6, 9, 10}},
		{api.Span{From: 0, To: api.MaxTime}, []api.Item{a, d, b, c, e, f}, []int{1, 2, 4, 6, 9, 10, 20}},
	} {
		if got, err := tree.Meets(x, m.s); !slices.Equal(got, m.items) || err != api.OK {
			t.Errorf("Meets(%v): %v, %d; want %v", m.s, got, err, m.items)
		}
		if got, err := tree.Points(x, m.s); !slices.Equal(got, m.points) || err != api.OK {
			t.Errorf("Points(%v): %v, %d; want %v", m.s, got, err, m.points)
		}
	}
	held(t, x, []api.Item{a, d, b, c, e, f}, spans(items))
}

// P17.1 and P17.2, wrong inputs.

// nothing tells whether a tree is the zero value.
func nothing(x api.Tree) bool {
	return len(x.Nodes) == 0 && x.Root == 0 && len(x.Free) == 0
}

// refused holds all that are asked of a tree that may not be against the error, with nothing beside it.
func refused(t *testing.T, name string, x api.Tree) {
	t.Helper()
	if tree.May(x) {
		t.Errorf("%s: %v may be", name, x)
	}
	its := []api.Item{in(5, 6, 3), in(6, 6, 3), in(5, 6, -1)}
	for _, at := range []int{0, len(x.Nodes) / 2, len(x.Nodes) - 1} {
		if at >= 0 && at < len(x.Nodes) {
			its = append(its, x.Nodes[at].Item)
		}
	}
	for _, it := range its {
		if y, err := tree.Insert(x, it); !nothing(y) || err != api.ErrTreeForm {
			t.Errorf("%s: Insert(%v, %v): %v, %d", name, x, it, y, err)
		}
		if y, err := tree.Delete(x, it); !nothing(y) || err != api.ErrTreeForm {
			t.Errorf("%s: Delete(%v, %v): %v, %d", name, x, it, y, err)
		}
	}
	if got, err := tree.Items(x); len(got) != 0 || err != api.ErrTreeForm {
		t.Errorf("%s: Items(%v): %v, %d", name, x, got, err)
	}
	for _, s := range []api.Span{{From: 0, To: api.MaxTime}, {From: 2, To: 5}, {From: 5, To: 2}, {}} {
		refusedIn(t, name, x, s)
	}
}

// refusedIn holds what is asked of a tree and a span against the error, with nothing beside it.
func refusedIn(t *testing.T, name string, x api.Tree, s api.Span) {
	t.Helper()
	if got, err := tree.Meets(x, s); len(got) != 0 || err != api.ErrTreeForm {
		t.Errorf("%s: Meets(%v, %v): %v, %d", name, x, s, got, err)
	}
	if got, err := tree.Points(x, s); len(got) != 0 || err != api.ErrTreeForm {
		t.Errorf("%s: Points(%v, %v): %v, %d", name, x, s, got, err)
	}
}

// wrongSpans: spans that may not be.
var wrongSpans = []api.Span{
	{}, {From: 5, To: 5}, {From: 5, To: 4}, {From: -1, To: 4}, {From: -4, To: -1}, {From: 0, To: api.MaxTime + 1}, {From: api.MaxTime, To: api.MaxTime},
	{From: api.MaxTime, To: api.MaxTime + 1}, {From: math.MinInt, To: math.MaxInt}, {From: math.MaxInt, To: math.MinInt}, {From: 0, To: math.MaxInt}, {From: math.MinInt, To: 1},
}

// wrongIds: numbers that are no rates.
var wrongIds = []int{-1, great + 1, math.MinInt, math.MaxInt, -great}

// wrongItems: items that may not be in a tree.
func wrongItems() []api.Item {
	var its []api.Item
	for _, s := range wrongSpans {
		for _, id := range []int{0, 3, great, -1} {
			its = append(its, api.Item{Span: s, Id: id})
		}
	}
	for _, id := range wrongIds {
		its = append(its, in(0, 1, id), in(3, 7, id), in(api.MaxTime-1, api.MaxTime, id))
	}
	return its
}

func TestOfTreesThatMayNotBe(t *testing.T) {
	for _, b := range bad() {
		refused(t, b.name, b.x)
	}
}

func TestOfItemsThatMayNotBe(t *testing.T) {
	for _, s := range all() {
		for _, it := range wrongItems() {
			// Where the tree is full, too.
			if y, err := tree.Insert(s.x, it); !nothing(y) || err != api.ErrTreeForm {
				t.Errorf("%s: Insert(%v, %v): %v, %d", s.name, s.x, it, y, err)
			}
			if y, err := tree.Delete(s.x, it); !nothing(y) || err != api.ErrTreeNone {
				t.Errorf("%s: Delete(%v, %v): %v, %d", s.name, s.x, it, y, err)
			}
		}
	}
}

func TestOfSpansThatMayNotBe(t *testing.T) {
	for _, s := range all() {
		for _, no := range wrongSpans {
			refusedIn(t, s.name, s.x, no)
		}
	}
}

func TestOfItemsThatAreThereOrNot(t *testing.T) {
	for _, s := range all() {
		for _, it := range s.items {
			// Where the tree is full, too.
			if y, err := tree.Insert(s.x, it); !nothing(y) || err != api.ErrTreeThere {
				t.Errorf("%s: Insert(%v, %v): %v, %d", s.name, s.x, it, y, err)
			}
			for _, by := range []api.Item{in(1, 0, 0), in(0, 1, 0), in(0, 0, 1), in(-1, 0, 0), in(0, -1, 0), in(0, 0, -1)} {
				no := in(it.From+by.From, it.To+by.To, it.Id+by.Id)
				if slices.Contains(s.items, no) {
					continue
				}
				if y, err := tree.Delete(s.x, no); !nothing(y) || err != api.ErrTreeNone {
					t.Errorf("%s: Delete(%v, %v): %v, %d", s.name, s.x, no, y, err)
				}
			}
		}
	}
}

// One more than may be; where the tree has as many places, but not as many items, there is room.
func TestFull(t *testing.T) {
	s := most()
	for _, it := range []api.Item{in(0, 1, 5), in(5, 6, 5), in(0, api.MaxTime, great), in(api.MaxTime-1, api.MaxTime, 0)} {
		if y, err := tree.Insert(s.x, it); !nothing(y) || err != api.ErrTreeFull {
			t.Errorf("Insert(%v, %v): %v, %d", s.x, it, y, err)
		}
		for _, less := range s.items {
			x, items, err := drop(t, s.x, s.items, less)
			if err != api.OK {
				t.Errorf("Delete(%v, %v): %d", s.x, less, err)
			}
			x, items, err = put(t, x, items, it)
			if err != api.OK || len(items) != api.MaxNodes {
				t.Errorf("Insert of %v where %v was: %d", it, less, err)
			}
			held(t, x, items, []api.Span{{From: 2, To: 5}, {From: 0, To: api.MaxTime}})
			if y, err := tree.Insert(x, less); !nothing(y) || err != api.ErrTreeFull {
				t.Errorf("Insert(%v, %v): %v, %d", x, less, y, err)
			}
		}
	}
	for _, s := range bare() {
		x, items := s.x, []api.Item(nil)
		for i := range api.MaxNodes {
			x, items, _ = put(t, x, items, in(40-i, 50, i))
		}
		if y, err := tree.Insert(x, in(0, 1, 0)); !nothing(y) || err != api.ErrTreeFull || len(items) != api.MaxNodes {
			t.Errorf("%s: Insert of one more: %v, %d", s.name, y, err)
		}
	}
}

// told gives all of a tree as text, to hold it against itself later.
func told(x api.Tree) string {
	return fmt.Sprint(x.Nodes, x.Root, x.Free)
}

// roomy gives a tree whose lists have spare room, and the whole of them.
func roomy(x api.Tree) (api.Tree, []api.Node, []int) {
	nodes, wholeNodes := samples.Roomy(x.Nodes, on(in(-5, -5, -5), -5, -5, -5, -5))
	free, wholeFree := samples.Roomy(x.Free, -5)
	return api.Tree{Nodes: nodes, Root: x.Root, Free: free}, wholeNodes, wholeFree
}
