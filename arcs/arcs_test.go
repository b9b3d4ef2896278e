package arcs_test

import (
	"math"
	"math/rand"
	"slices"
	"sync"
	"testing"

	"tollbar/api"
	"tollbar/arcs"
	"tollbar/graph"
)

// edges: numbers at which an answer may turn.
var edges = []int{math.MinInt, math.MinInt + 1, -api.MaxRate, -api.MaxVerts, -2, -1, 0, 1, 2, 3, api.MaxVerts - 1, api.MaxVerts, api.MaxVerts + 1, api.MaxLinks, api.MaxRate, math.MaxInt - 1, math.MaxInt}

// of makes a graph of links that are told as From, To; their Caps say nothing of the arcs.
func of(verts int, links ...[2]int) api.Graph {
	g := api.Graph{Verts: verts}
	for i, l := range links {
		g.Links = append(g.Links, api.Link{From: l[0], To: l[1], Cap: i % 3})
	}
	return g
}

// many makes a graph of n links from one vertex to another one.
func many(verts int, n int, from int, to int) api.Graph {
	g := api.Graph{Verts: verts}
	for range n {
		g.Links = append(g.Links, api.Link{From: from, To: to, Cap: 1})
	}
	return g
}

// capped makes a graph of two vertices and of links from 0 to 1 with these Caps.
func capped(caps ...int) api.Graph {
	g := api.Graph{Verts: 2}
	for _, c := range caps {
		g.Links = append(g.Links, api.Link{From: 0, To: 1, Cap: c})
	}
	return g
}

// upTo gives n numbers from first on, each by step above the one ahead.
func upTo(n int, first int, step int) []int {
	var list []int
	for i := range n {
		list = append(list, first+i*step)
	}
	return list
}

// kind is a graph and, written out, what its arcs are.
type kind struct {
	name string
	g    api.Graph
	want api.Arcs
}

// right: graphs that may be, at the edges and between them.
func right() []kind {
	const last, most = api.MaxVerts - 1, api.MaxLinks
	return []kind{
		{"two vertices, no links", of(2), api.Arcs{Starts: []int{0, 0, 0}}},
		{"two vertices, an empty list", api.Graph{Verts: 2, Links: []api.Link{}}, api.Arcs{Starts: []int{0, 0, 0}}},
		{"MaxVerts vertices, no links", of(api.MaxVerts), api.Arcs{Starts: make([]int, api.MaxVerts+1)}},
		{"one link", of(2, [2]int{0, 1}), api.Arcs{Starts: []int{0, 1, 2}, Order: []int{0, 1}, Heads: []int{1, 0}}},
		{"one link from 1 to 0", of(2, [2]int{1, 0}), api.Arcs{Starts: []int{0, 1, 2}, Order: []int{1, 0}, Heads: []int{0, 1}}},
		{"links both ways", of(2, [2]int{0, 1}, [2]int{1, 0}), api.Arcs{Starts: []int{0, 2, 4}, Order: []int{0, 3, 1, 2}, Heads: []int{1, 0, 0, 1}}},
		{"links both ways, the other first", of(2, [2]int{1, 0}, [2]int{0, 1}), api.Arcs{Starts: []int{0, 2, 4}, Order: []int{1, 2, 0, 3}, Heads: []int{0, 1, 1, 0}}},
		{"several with one From and one To", of(3, [2]int{2, 1}, [2]int{2, 1}, [2]int{2, 1}), api.Arcs{Starts: []int{0, 0, 3, 6}, Order: []int{1, 3, 5, 0, 2, 4}, Heads: []int{1, 2, 1, 2, 1, 2}}},
		{"no arc begins at the first", of(3, [2]int{1, 2}), api.Arcs{Starts: []int{0, 0, 1, 2}, Order: []int{0, 1}, Heads: []int{2, 1}}},
		{"no arc begins in the midst", of(4, [2]int{3, 0}), api.Arcs{Starts: []int{0, 1, 1, 1, 2}, Order: []int{1, 0}, Heads: []int{0, 3}}},
		{"no arc begins at the last", of(3, [2]int{0, 1}), api.Arcs{Starts: []int{0, 1, 2, 2}, Order: []int{0, 1}, Heads: []int{1, 0}}},
		{"from the first to the last", of(api.MaxVerts, [2]int{0, last}), api.Arcs{Starts: []int{0, 1, 1, 1, 1, 1, 1, 1, 2}, Order: []int{0, 1}, Heads: []int{last, 0}}},
		{"from the last to the first", of(api.MaxVerts, [2]int{last, 0}), api.Arcs{Starts: []int{0, 1, 1, 1, 1, 1, 1, 1, 2}, Order: []int{1, 0}, Heads: []int{0, last}}},
		{"a round", of(3, [2]int{0, 1}, [2]int{1, 2}, [2]int{2, 0}), api.Arcs{Starts: []int{0, 2, 4, 6}, Order: []int{0, 5, 1, 2, 3, 4}, Heads: []int{1, 0, 2, 1, 0, 2}}},
		{"a star", of(4, [2]int{3, 0}, [2]int{1, 3}, [2]int{3, 2}, [2]int{0, 3}), api.Arcs{Starts: []int{0, 2, 3, 4, 8}, Order: []int{1, 6, 2, 5, 0, 3, 4, 7}, Heads: []int{0, 3, 3, 1, 2, 3, 3, 0}}},
		{"MaxLinks links", many(2, most, 0, 1), api.Arcs{Starts: []int{0, most, 2 * most}, Order: slices.Concat(upTo(most, 0, 2), upTo(most, 1, 2)), Heads: slices.Repeat([]int{1, 0}, most)}},
		{"MaxLinks links, from the last to the first", many(api.MaxVerts, most, last, 0), api.Arcs{Starts: append(append([]int{0}, slices.Repeat([]int{most}, last)...), 2*most), Order: slices.Concat(upTo(most, 1, 2), upTo(most, 0, 2)), Heads: slices.Repeat([]int{0, last}, most)}},
		{"a Cap of MaxRate", capped(api.MaxRate, 0), api.Arcs{Starts: []int{0, 2, 4}, Order: []int{0, 2, 1, 3}, Heads: []int{1, 0, 1, 0}}},
	}
}

// wrong: graphs that may not be, for each of layer 4's reasons.
func wrong() []kind {
	kinds := []kind{
		{name: "nothing", g: api.Graph{}},
		{name: "one vertex", g: of(1)},
		{name: "below none", g: of(-1)},
		{name: "one above MaxVerts", g: of(api.MaxVerts + 1)},
		{name: "one above MaxVerts, a link", g: of(api.MaxVerts+1, [2]int{0, 1})},
		{name: "the greatest int of vertices", g: of(math.MaxInt)},
		{name: "the least int of vertices", g: of(math.MinInt)},
		{name: "one link above MaxLinks", g: many(2, api.MaxLinks+1, 0, 1)},
		{name: "a From below 0", g: of(2, [2]int{-1, 1})},
		{name: "a From that is Verts", g: of(2, [2]int{2, 1})},
		{name: "the greatest int as From", g: of(2, [2]int{math.MaxInt, 1})},
		{name: "the least int as From", g: of(2, [2]int{math.MinInt, 1})},
		{name: "a To below 0", g: of(2, [2]int{0, -1})},
		{name: "a To that is Verts", g: of(2, [2]int{0, 2})},
		{name: "the greatest int as To", g: of(2, [2]int{0, math.MaxInt})},
		{name: "the least int as To", g: of(2, [2]int{0, math.MinInt})},
		{name: "From and To alike, the first", g: of(2, [2]int{0, 0})},
		{name: "From and To alike, the last", g: of(api.MaxVerts, [2]int{api.MaxVerts - 1, api.MaxVerts - 1})},
		{name: "a Cap below 0", g: capped(-1)},
		{name: "a Cap above MaxRate", g: capped(api.MaxRate + 1)},
		{name: "the greatest int as Cap", g: capped(math.MaxInt)},
		{name: "the least int as Cap", g: capped(math.MinInt)},
		{name: "a Cap below 0, a total of 0", g: capped(1, -1)},
		{name: "one above MaxRate together", g: capped(api.MaxRate, 1)},
		{name: "four times MaxRate together, 0 in an int", g: capped(api.MaxRate, api.MaxRate, api.MaxRate, api.MaxRate)},
	}
	for place := range api.MaxLinks {
		for _, l := range []api.Link{{From: -1, To: 1}, {From: 0, To: 3}, {From: 2, To: 2}, {From: 0, To: 1, Cap: -1}, {From: 0, To: 1, Cap: api.MaxRate}} {
			g := many(3, api.MaxLinks, 0, 1)
			g.Links[place] = l
			kinds = append(kinds, kind{name: "one of MaxLinks wrong", g: g})
		}
	}
	return kinds
}

func alike(a api.Arcs, b api.Arcs) bool {
	return slices.Equal(a.Starts, b.Starts) && slices.Equal(a.Order, b.Order) && slices.Equal(a.Heads, b.Heads)
}

// arcsOf gives of each arc where it begins and where it goes to, by the words of the chapter.
func arcsOf(g api.Graph) (tails []int, heads []int) {
	for arc := range 2 * len(g.Links) {
		l := g.Links[arc/2]
		if arc%2 == 1 {
			l.From, l.To = l.To, l.From
		}
		tails = append(tails, l.From)
		heads = append(heads, l.To)
	}
	return tails, heads
}

// model gives the arcs of a graph that may be: all of them sorted by where they begin, then by number.
func model(g api.Graph) api.Arcs {
	tails, heads := arcsOf(g)
	a := api.Arcs{Heads: heads, Order: upTo(len(tails), 0, 1)}
	slices.SortFunc(a.Order, func(x int, y int) int {
		if tails[x] != tails[y] {
			return tails[x] - tails[y]
		}
		return x - y
	})
	for v := range g.Verts + 1 {
		ahead := 0
		for _, tail := range tails {
			if tail < v {
				ahead++
			}
		}
		a.Starts = append(a.Starts, ahead)
	}
	return a
}

// check holds both calls of g, and of the vertices vs, against the words of the chapter.
func check(t *testing.T, g api.Graph, vs ...int) {
	t.Helper()
	may := graph.May(g)
	var want api.Arcs
	wantErr := api.ErrArcsForm
	if may {
		want, wantErr = model(g), api.OK
	}
	if got, err := arcs.Build(g); !alike(got, want) || err != wantErr {
		t.Errorf("Build(%v): %v, %d, want %v, %d", g, got, err, want, wantErr)
	}
	for _, v := range vs {
		var row []int
		rowErr := api.ErrArcsForm
		if may && v >= 0 && v < g.Verts {
			row, rowErr = want.Order[want.Starts[v]:want.Starts[v+1]], api.OK
		}
		if got, err := arcs.Row(g, v); !slices.Equal(got, row) || err != rowErr {
			t.Errorf("Row(%v, %d): %v, %d, want %v, %d", g, v, got, err, row, rowErr)
		}
	}
}

// P5.1: Build.

func TestBuild(t *testing.T) {
	for _, k := range right() {
		if got, err := arcs.Build(k.g); !alike(got, k.want) || err != api.OK {
			t.Errorf("%s: Build(%v): %v, %d, want %v, OK", k.name, k.g, got, err, k.want)
		}
	}
}

func TestBuildOfAGraphThatMayNotBe(t *testing.T) {
	for _, k := range wrong() {
		if got, err := arcs.Build(k.g); !alike(got, api.Arcs{}) || err != api.ErrArcsForm {
			t.Errorf("%s: Build(%v): %v, %d, want none, ErrArcsForm", k.name, k.g, got, err)
		}
	}
}

func TestStartsEndWithHowManyArcsThereAre(t *testing.T) {
	for n := range api.MaxLinks + 1 {
		for _, verts := range []int{2, 3, api.MaxVerts} {
			got, err := arcs.Build(many(verts, n, 1, 0))
			if err != api.OK || len(got.Starts) != verts+1 || got.Starts[verts] != 2*n || got.Starts[0] != 0 {
				t.Errorf("%d links, %d vertices: Starts %v, %d", n, verts, got.Starts, err)
			}
		}
	}
}

// P5.1: Row.

func TestRow(t *testing.T) {
	for _, k := range right() {
		for v := range k.g.Verts {
			want := k.want.Order[k.want.Starts[v]:k.want.Starts[v+1]]
			if got, err := arcs.Row(k.g, v); !slices.Equal(got, want) || err != api.OK {
				t.Errorf("%s: Row(%v, %d): %v, %d, want %v, OK", k.name, k.g, v, got, err, want)
			}
		}
	}
}

func TestRowOfLinksOutAndIn(t *testing.T) {
	g := of(5, [2]int{1, 0}, [2]int{0, 2}, [2]int{2, 1}, [2]int{0, 1}, [2]int{0, 1}, [2]int{4, 0})
	rows := [][]int{{1, 2, 6, 8, 11}, {0, 5, 7, 9}, {3, 4}, nil, {10}}
	for v, want := range rows {
		if got, err := arcs.Row(g, v); !slices.Equal(got, want) || err != api.OK {
			t.Errorf("Row(%d): %v, %d, want %v, OK", v, got, err, want)
		}
	}
}

func TestRowOfNoVertex(t *testing.T) {
	for _, k := range right() {
		for _, v := range []int{-1, -2, k.g.Verts, k.g.Verts + 1, api.MaxVerts, math.MaxInt, math.MinInt} {
			if got, err := arcs.Row(k.g, v); len(got) != 0 || err != api.ErrArcsForm {
				t.Errorf("%s: Row(%v, %d): %v, %d, want none, ErrArcsForm", k.name, k.g, v, got, err)
			}
		}
	}
}

func TestRowOfAGraphThatMayNotBe(t *testing.T) {
	for _, k := range wrong() {
		for v := -1; v <= api.MaxVerts+1; v++ {
			if got, err := arcs.Row(k.g, v); len(got) != 0 || err != api.ErrArcsForm {
				t.Errorf("%s: Row(%v, %d): %v, %d, want none, ErrArcsForm", k.name, k.g, v, got, err)
			}
		}
	}
}

// P5.1, both calls: against the words of the chapter.

func TestAtAllEdges(t *testing.T) {
	for _, k := range slices.Concat(right(), wrong()) {
		check(t, k.g, edges...)
	}
	for _, verts := range edges {
		for n := range api.MaxLinks + 3 {
			check(t, many(verts, n, 0, 1), 0, 1, verts-1, verts)
			check(t, many(verts, n, verts-1, 0), 0, 1, verts-1, verts)
		}
		for _, from := range edges {
			for _, to := range edges {
				check(t, of(verts, [2]int{from, to}, [2]int{to, from}), 0, 1, from, to)
			}
		}
	}
}

// All graphs of three vertices and up to three links.
func TestAllSmallGraphs(t *testing.T) {
	ends := [][2]int{{0, 1}, {1, 0}, {0, 2}, {2, 0}, {1, 2}, {2, 1}}
	for _, a := range ends {
		check(t, of(3, a), -1, 0, 1, 2, 3)
		for _, b := range ends {
			check(t, of(3, a, b), -1, 0, 1, 2, 3)
			for _, c := range ends {
				check(t, of(3, a, b, c), -1, 0, 1, 2, 3)
			}
		}
	}
}

func TestWhateverGraph(t *testing.T) {
	r := rand.New(rand.NewSource(5))
	for range 20000 {
		g := api.Graph{Verts: 1 + r.Intn(api.MaxVerts+1)}
		for range r.Intn(api.MaxLinks + 2) {
			l := api.Link{From: r.Intn(g.Verts + 1), To: r.Intn(g.Verts + 1), Cap: r.Intn(5)}
			if r.Intn(40) > 0 && g.Verts > 1 {
				l.From = r.Intn(g.Verts)
				l.To = (l.From + 1 + r.Intn(g.Verts-1)) % g.Verts
			}
			g.Links = append(g.Links, l)
		}
		check(t, g, -1, 0, 1, 2, 3, 4, 5, 6, 7, 8, 9)
	}
}

// R4: what is handed in is not changed, nor its spare room, nor kept; answers are new memory.

func TestWhatIsHandedInIsNotChanged(t *testing.T) {
	for _, k := range slices.Concat(right(), wrong()) {
		spare := api.Link{From: -7, To: -8, Cap: -9}
		room := append(slices.Clone(k.g.Links), spare, spare, spare)
		was := slices.Clone(room)
		g := api.Graph{Verts: k.g.Verts, Links: room[:len(k.g.Links)]}
		arcs.Build(g)
		for v := -1; v <= api.MaxVerts; v++ {
			arcs.Row(g, v)
		}
		if !slices.Equal(room, was) {
			t.Errorf("%s: changed: %v, was %v", k.name, room, was)
		}
	}
}

// spoil writes over a list and its spare room.
func spoil(list []int) {
	for i := range list[:cap(list)] {
		list[:cap(list)][i] = -5
	}
}

func TestAnswersAreNewMemory(t *testing.T) {
	for _, k := range right() {
		first, _ := arcs.Build(k.g)
		second, _ := arcs.Build(k.g)
		row, _ := arcs.Row(k.g, 1)
		other, _ := arcs.Row(k.g, 1)
		spoil(first.Starts)
		spoil(first.Order)
		spoil(first.Heads)
		spoil(row)
		third, _ := arcs.Build(k.g)
		if !alike(second, k.want) || !alike(third, k.want) {
			t.Errorf("%s: Build: %v, then %v, want %v", k.name, second, third, k.want)
		}
		more, _ := arcs.Row(k.g, 1)
		want := k.want.Order[k.want.Starts[1]:k.want.Starts[2]]
		if !slices.Equal(other, want) || !slices.Equal(more, want) {
			t.Errorf("%s: Row: %v, then %v, want %v", k.name, other, more, want)
		}
	}
}

func TestTheListsOfOneAnswerShareNone(t *testing.T) {
	for _, k := range right() {
		for turn := range 3 {
			got, _ := arcs.Build(k.g)
			want := k.want
			switch turn {
			case 0:
				spoil(got.Starts)
				want.Starts = got.Starts
			case 1:
				spoil(got.Order)
				want.Order = got.Order
			case 2:
				spoil(got.Heads)
				want.Heads = got.Heads
			}
			if !alike(got, want) {
				t.Errorf("%s: list %d written over: %v, want %v", k.name, turn, got, want)
			}
		}
	}
}

func TestWhatIsHandedInIsNotKept(t *testing.T) {
	g := of(3, [2]int{0, 1}, [2]int{2, 1})
	built, _ := arcs.Build(g)
	row, _ := arcs.Row(g, 1)
	g.Links[0] = api.Link{From: 1, To: 2, Cap: 9}
	want := api.Arcs{Starts: []int{0, 1, 3, 4}, Order: []int{0, 1, 3, 2}, Heads: []int{1, 0, 1, 2}}
	if !alike(built, want) || !slices.Equal(row, []int{1, 3}) {
		t.Errorf("answers turned: %v, %v", built, row)
	}
	check(t, g, 0, 1, 2)
	g.Links[1].Cap = -1
	check(t, g, 0, 1, 2)
}

// R5: from several goroutines at one time.

func TestFromSeveralGoroutines(t *testing.T) {
	g := many(api.MaxVerts, api.MaxLinks, 0, 1)
	want := model(g)
	var wg sync.WaitGroup
	for range 8 {
		wg.Go(func() {
			for range 200 {
				built, err := arcs.Build(g)
				row, err2 := arcs.Row(g, 1)
				if !alike(built, want) || !slices.Equal(row, upTo(api.MaxLinks, 1, 2)) || err != api.OK || err2 != api.OK {
					t.Errorf("Build %v, Row %v: %d, %d", built, row, err, err2)
				}
			}
		})
	}
	wg.Wait()
}
