package tree_test

import (
	"math/rand"
	"slices"
	"sync"
	"testing"

	"tollbar/api"
	"tollbar/samples"
	"tollbar/tree"
)

// held holds a tree against the words of the chapter and the items that it is to have, in their row; what it meets in spans, too.
func held(t *testing.T, x api.Tree, items []api.Item, ss []api.Span) {
	t.Helper()
	if why := fault(x); why != "" || !tree.May(x) {
		t.Fatalf("%v may not be: %s", x, why)
	}
	if got, err := tree.Items(x); !slices.Equal(got, items) || err != api.OK {
		t.Fatalf("Items(%v): %v, %d; want %v", x, got, err, items)
	}
	for _, s := range ss {
		if got, err := tree.Meets(x, s); !slices.Equal(got, meeting(items, s)) || err != api.OK {
			t.Fatalf("Meets(%v, %v): %v, %d; want %v", x, s, got, err, meeting(items, s))
		}
		if got, err := tree.Points(x, s); !slices.Equal(got, points(items, s)) || err != api.OK {
			t.Fatalf("Points(%v, %v): %v, %d; want %v", x, s, got, err, points(items, s))
		}
	}
}

// meeting gives the items that have an instant in common with s.
func meeting(items []api.Item, s api.Span) []api.Item {
	var met []api.Item
	for _, it := range items {
		if max(it.From, s.From) < min(it.To, s.To) {
			met = append(met, it)
		}
	}
	return met
}

// points gives each From and To of items between the ends of s, rising, once each.
func points(items []api.Item, s api.Span) []int {
	var ps []int
	for _, it := range items {
		ps = append(ps, it.From, it.To)
	}
	slices.Sort(ps)
	return slices.DeleteFunc(slices.Compact(ps), func(p int) bool { return p <= s.From || p >= s.To })
}

// put holds Insert against what is due, and gives the tree and its items behind it; these stay, if it is refused.
func put(t *testing.T, x api.Tree, items []api.Item, it api.Item) (api.Tree, []api.Item, api.Errno) {
	t.Helper()
	k, there := slices.BinarySearchFunc(items, it, byRow)
	due := api.OK
	switch {
	case there:
		due = api.ErrTreeThere
	case len(items) == api.MaxNodes:
		due = api.ErrTreeFull
	}
	y, err := tree.Insert(x, it)
	if err != due || err != api.OK && !nothing(y) {
		t.Fatalf("Insert(%v, %v): %v, %d; want %d", x, it, y, err, due)
	}
	if err != api.OK {
		return x, items, err
	}
	row := slices.Insert(slices.Clone(items), k, it)
	held(t, y, row, nil)
	return y, row, err
}

// drop holds Delete against what is due, and gives the tree and its items behind it; these stay, if it is refused.
func drop(t *testing.T, x api.Tree, items []api.Item, it api.Item) (api.Tree, []api.Item, api.Errno) {
	t.Helper()
	k, there := slices.BinarySearchFunc(items, it, byRow)
	due := api.OK
	if !there {
		due = api.ErrTreeNone
	}
	y, err := tree.Delete(x, it)
	if err != due || err != api.OK && !nothing(y) {
		t.Fatalf("Delete(%v, %v): %v, %d; want %d", x, it, y, err, due)
	}
	if err != api.OK {
		return x, items, err
	}
	row := slices.Delete(slices.Clone(items), k, k+1)
	held(t, y, row, nil)
	return y, row, err
}

// sets: items, as many as may be, in their row: one behind the other, each within the one ahead of it, of one From, of one span, of few Froms and Tos.
func sets() [][]api.Item {
	all := make([][]api.Item, 5)
	for i := range api.MaxNodes {
		all[0] = append(all[0], in(3*i, 3*i+3, 7))
		all[1] = append(all[1], in(i, api.MaxTime-i, great-i))
		all[2] = append(all[2], in(5, 6+i, 31-i))
		all[3] = append(all[3], in(5, 6, i))
		all[4] = append(all[4], in(i/8, i/8+1+i/4%2, i%4))
	}
	return all
}

// rows: in which rows as many items as may be can be put in or taken out: rising, falling, from both ends, from the midst, mixed.
func rows() [][]int {
	n := api.MaxNodes
	up := mixed(n, 1)
	down := slices.Clone(up)
	slices.Reverse(down)
	var ends []int
	for i := range n / 2 {
		ends = append(ends, i, n-1-i)
	}
	midst := slices.Clone(ends)
	slices.Reverse(midst)
	return [][]int{up, down, ends, midst, mixed(n, 5), mixed(n, 11), mixed(n, 19)}
}

func TestRows(t *testing.T) {
	for _, items := range sets() {
		for _, row := range rows() {
			x, have := tree.New(), []api.Item(nil)
			for k, i := range row {
				var err api.Errno
				if x, have, err = put(t, x, have, items[i]); err != api.OK || len(have) != k+1 {
					t.Fatalf("Insert of %v: %d", items[i], err)
				}
			}
			held(t, x, items, spans(items[:9]))
			for _, back := range rows() {
				y, left := x, have
				for k, i := range back {
					var err api.Errno
					if y, left, err = drop(t, y, left, items[i]); err != api.OK || len(left) != api.MaxNodes-1-k {
						t.Fatalf("Delete of %v: %d", items[i], err)
					}
					if k%8 == 3 {
						held(t, y, left, []api.Span{{From: 2, To: 7}, {From: 5, To: 6}, {From: 0, To: api.MaxTime}})
					}
				}
				// Behind all, places lie in Free or not; what is put in hangs as in any tree.
				z, again, err := put(t, y, left, items[3])
				if err != api.OK {
					t.Fatalf("Insert(%v, %v): %d", y, items[3], err)
				}
				held(t, z, again, []api.Span{items[3].Span})
			}
		}
	}
}

// The same items in two rows: what is asked of them is answered alike.
func TestTwoRows(t *testing.T) {
	for _, items := range sets() {
		var one api.Tree
		for k, row := range rows() {
			x, have := tree.New(), []api.Item(nil)
			for _, i := range row[:20] {
				x, have, _ = put(t, x, have, items[i])
			}
			// Those that are not in all rows are put in behind them.
			for _, it := range items {
				x, have, _ = put(t, x, have, it)
			}
			if k == 0 {
				one = x
				continue
			}
			for _, s := range spans(items[4:8]) {
				a, err := tree.Meets(one, s)
				b, err2 := tree.Meets(x, s)
				if !slices.Equal(a, b) || err != api.OK || err2 != api.OK {
					t.Errorf("Meets in %v: %v, %d and %v, %d", s, a, err, b, err2)
				}
				c, err := tree.Points(one, s)
				d, err2 := tree.Points(x, s)
				if !slices.Equal(c, d) || err != api.OK || err2 != api.OK {
					t.Errorf("Points in %v: %v, %d and %v, %d", s, c, err, d, err2)
				}
			}
		}
	}
}

// eachRow calls do with all rows of the numbers below n.
func eachRow(n int, do func(row []int)) {
	var further func(row []int)
	further = func(row []int) {
		if len(row) == n {
			do(row)
			return
		}
		for i := range n {
			if !slices.Contains(row, i) {
				further(append(row[:len(row):len(row)], i))
			}
		}
	}
	further(nil)
}

// Five items, put in in all rows, taken out in all rows; seven, put in in all rows.
func TestAllRows(t *testing.T) {
	items := []api.Item{in(1, 4, 9), in(2, 3, 0), in(2, 3, great), in(2, 8, 4), in(5, 6, 4), in(8, 9, 1), in(8, 9, 2)}
	ss := []api.Span{{From: 2, To: 5}, {From: 3, To: 8}, {From: 4, To: 5}}
	ways := 0
	eachRow(5, func(row []int) {
		x, have := tree.New(), []api.Item(nil)
		for _, i := range row {
			x, have, _ = put(t, x, have, items[i])
		}
		held(t, x, have, ss)
		eachRow(5, func(back []int) {
			y, left := x, have
			for _, i := range back {
				y, left, _ = drop(t, y, left, items[i])
			}
			if len(have) != 5 || len(left) != 0 {
				t.Fatalf("%v in, %v out: %v, %v", row, back, have, left)
			}
			ways++
		})
	})
	eachRow(7, func(row []int) {
		x, have := tree.New(), []api.Item(nil)
		for _, i := range row {
			x, have, _ = put(t, x, have, items[i])
		}
		held(t, x, have, ss)
		ways++
	})
	if ways != 120*120+5040 {
		t.Errorf("only %d ways", ways)
	}
}

// gaps gives n items in their row, with room for one more ahead of each, between them and behind all.
func gaps(n int) []api.Item {
	var items []api.Item
	for i := range n {
		// Tos rise, fall and are alike, so that Most comes from all sides.
		items = append(items, in(2*i+1, 2*i+2+i*i*7%11, 4))
	}
	return items
}

// All trees of up to twelve items, at places drawn, some in Free: each item taken out, one put in at each place of the row.
func TestAllShapes(t *testing.T) {
	r := rand.New(rand.NewSource(17))
	count := []int{1, 1, 2, 1, 4, 6, 4, 17, 32, 44, 60, 70, 184}
	for n := range 13 {
		ways := shapes(n)
		if len(ways) != count[n] {
			t.Errorf("%d items: %d ways to hang, want %d", n, len(ways), count[n])
		}
		for _, way := range ways {
			items, places := gaps(n), r.Perm(n+r.Intn(4))
			turnEach(t, lay(way, items, places, len(places)), items)
		}
	}
}

// turnEach takes each item out, and puts one in ahead of each, and behind all.
func turnEach(t *testing.T, x api.Tree, items []api.Item) {
	t.Helper()
	held(t, x, items, nil)
	ss := []api.Span{{From: 3, To: 4}, {From: 5, To: 9}, {From: 8, To: 21}}
	for i := range len(items) + 1 {
		y, have, err := put(t, x, items, in(2*i, 2*i+1+i%3, 4))
		if err != api.OK {
			t.Fatalf("Insert: %d", err)
		}
		held(t, y, have, ss)
		if i == len(items) {
			break
		}
		if y, have, err = drop(t, x, items, items[i]); err != api.OK {
			t.Fatalf("Delete: %d", err)
		}
		held(t, y, have, ss)
	}
}

// thin gives all ways in which as few Nodes as may be stand so high.
func thin(high int) []*limb {
	if high <= 1 {
		return [][]*limb{{nil}, {{}}}[high]
	}
	var ways []*limb
	for _, a := range thin(high - 1) {
		for _, b := range thin(high - 2) {
			ways = append(ways, &limb{a, b}, &limb{b, a})
		}
	}
	return ways
}

// All of the thinnest trees of Height 6, of twenty items: what is taken out turns them from below up to Root.
func TestThinTrees(t *testing.T) {
	ways, items := thin(6), gaps(20)
	if len(ways) != 4096 {
		t.Errorf("%d ways to hang", len(ways))
	}
	turns := 0
	for _, way := range ways {
		x := lay(way, items, mixed(23, 9), 23)
		for _, it := range items {
			y, err := tree.Delete(x, it)
			if err != api.OK || !tree.May(y) || len(below(y, y.Root)) != 19 {
				t.Fatalf("Delete(%v, %v): %v, %d", x, it, y, err)
			}
			if y.Nodes[y.Root].Height < 6 {
				turns++
			}
		}
	}
	// From one as thin at least one item in each part can be taken so that all of it gets lower.
	if turns < 4096 {
		t.Errorf("only %d get lower", turns)
	}
}

func TestWhateverIsPutInAndTakenOut(t *testing.T) {
	r := rand.New(rand.NewSource(1717))
	full, there, none := 0, 0, 0
	for range 150 {
		x, have := tree.New(), []api.Item(nil)
		wide, long, ids := 1+r.Intn(30), 1+r.Intn(12), 1+r.Intn(3)
		// More put in than taken out, the other way, as much of each.
		share := 1 + r.Intn(3)
		for range 200 {
			from := r.Intn(wide)
			it := in(from, from+1+r.Intn(long), r.Intn(ids))
			if len(have) > 0 && r.Intn(2) == 0 {
				it = have[r.Intn(len(have))]
			}
			var err api.Errno
			if r.Intn(4) < share {
				x, have, err = put(t, x, have, it)
			} else {
				x, have, err = drop(t, x, have, it)
			}
			switch {
			case err == api.ErrTreeFull:
				full++
			case err == api.ErrTreeThere:
				there++
			case err == api.ErrTreeNone:
				none++
			}
			at := r.Intn(40)
			held(t, x, have, []api.Span{{From: at, To: at + 1 + r.Intn(9)}})
		}
	}
	if full < 20 || there < 2000 || none < 500 {
		t.Errorf("only %d full, %d there, %d none", full, there, none)
	}
}

// R4.

// asks: what is asked of a tree, and how what is answered is written over; what is answered is told as text.
func asks(it api.Item, s api.Span) []func(x api.Tree) (string, func()) {
	return []func(x api.Tree) (string, func()){
		func(x api.Tree) (string, func()) {
			y, err := tree.Insert(x, it)
			return told(y) + err.Error(), func() { spoil(y) }
		},
		func(x api.Tree) (string, func()) {
			y, err := tree.Delete(x, it)
			return told(y) + err.Error(), func() { spoil(y) }
		},
		func(x api.Tree) (string, func()) {
			items, err := tree.Items(x)
			return toldItems(items) + err.Error(), func() { spoilItems(items) }
		},
		func(x api.Tree) (string, func()) {
			items, err := tree.Meets(x, s)
			return toldItems(items) + err.Error(), func() { spoilItems(items) }
		},
		func(x api.Tree) (string, func()) {
			ps, err := tree.Points(x, s)
			return toldPoints(ps) + err.Error(), func() { samples.Spoil(ps) }
		},
		func(x api.Tree) (string, func()) {
			y := tree.New()
			return told(y), func() { spoil(y) }
		},
	}
}

// toldItems gives items as text.
func toldItems(items []api.Item) string {
	var x api.Tree
	for _, it := range items {
		x.Nodes = append(x.Nodes, leaf(it))
	}
	return told(x)
}

// toldPoints gives points as text.
func toldPoints(ps []int) string {
	return told(api.Tree{Free: ps})
}

// spoil writes over the lists of a tree and their spare room.
func spoil(x api.Tree) {
	samples.Spoil(x.Free)
	for i := range x.Nodes[:cap(x.Nodes)] {
		x.Nodes[:cap(x.Nodes)][i] = on(in(-5, -5, -5), -5, -5, -5, -5)
	}
}

// spoilItems writes over items and their spare room.
func spoilItems(items []api.Item) {
	for i := range items[:cap(items)] {
		items[:cap(items)][i] = in(-5, -5, -5)
	}
}

// What is handed in stays as it is, spare room too; what is answered is neither of it nor of another answer.
func TestMemory(t *testing.T) {
	its := []api.Item{in(0, 1, 9), in(2, 4, 2), in(5, 6, 3)}
	for _, s := range append(all(), sample{"may not be", badHeights()[0].x, nil}) {
		for _, it := range slices.Concat(its, s.items) {
			for k, ask := range asks(it, api.Span{From: 0, To: 7}) {
				x, nodes, free := roomy(s.x)
				wasNodes, wasFree := slices.Clone(nodes), slices.Clone(free)
				first, over := ask(x)
				second, _ := ask(x)
				over()
				third, again := ask(x)
				if first != second || first != third {
					t.Errorf("%s, ask %d of %v: %s, then %s, then %s", s.name, k, it, first, second, third)
				}
				again()
				if !slices.Equal(nodes, wasNodes) || !slices.Equal(free, wasFree) {
					t.Errorf("%s, ask %d of %v: turned", s.name, k, it)
				}
			}
		}
	}
}

// What was answered stays as it is, whatever is done to what was handed in, or to another answer.
func TestNothingIsKept(t *testing.T) {
	for _, s := range all() {
		for _, it := range slices.Concat([]api.Item{in(0, 1, 9), in(5, 6, 3)}, s.items) {
			x, _, _ := roomy(s.x)
			more, _ := tree.Insert(x, it)
			less, _ := tree.Delete(x, it)
			items, _ := tree.Items(x)
			met, _ := tree.Meets(x, api.Span{From: 0, To: 7})
			ps, _ := tree.Points(x, api.Span{From: 0, To: 7})
			was := told(more) + told(less) + toldItems(items) + toldItems(met) + toldPoints(ps)
			spoil(x)
			if is := told(more) + told(less) + toldItems(items) + toldItems(met) + toldPoints(ps); is != was {
				t.Errorf("%s, %v: %s, was %s", s.name, it, is, was)
			}
			was = told(less) + toldItems(met) + toldPoints(ps)
			spoil(more)
			spoilItems(items)
			if is := told(less) + toldItems(met) + toldPoints(ps); is != was {
				t.Errorf("%s, %v: %s, was %s", s.name, it, is, was)
			}
		}
	}
	// One tree of which two are made: neither turns the other.
	x, have := tree.New(), []api.Item(nil)
	for _, it := range gaps(9) {
		x, have, _ = put(t, x, have, it)
	}
	for _, it := range have[:3] {
		x, have, _ = drop(t, x, have, it)
	}
	a, ofA, _ := put(t, x, have, in(0, 1, 1))
	b, ofB, _ := put(t, x, have, in(30, 31, 1))
	held(t, a, ofA, nil)
	held(t, b, ofB, nil)
	held(t, x, have, nil)
}

// R5.

// The same is answered, whenever and from wherever it is asked.
func TestFromSeveralGoroutines(t *testing.T) {
	ss := all()
	tell := func() string {
		text := ""
		for _, s := range ss {
			for _, ask := range asks(in(2, 4, 3), api.Span{From: 1, To: 9}) {
				answer, _ := ask(s.x)
				text += answer
			}
		}
		return text
	}
	want := tell()
	var all sync.WaitGroup
	got := make([]string, 8)
	for i := range got {
		all.Go(func() { got[i] = tell() })
	}
	all.Wait()
	for i, text := range got {
		if text != want {
			t.Errorf("goroutine %d: %s, want %s", i, text, want)
		}
	}
}
