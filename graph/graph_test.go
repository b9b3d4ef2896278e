package graph_test

import (
	"math"
	"math/big"
	"math/rand"
	"slices"
	"sync"
	"testing"

	"tollbar/api"
	"tollbar/graph"
)

// edges: numbers at which an answer may turn.
var edges = []int{math.MinInt, math.MinInt + 1, -api.MaxRate - 1, -api.MaxRate, -api.MaxVerts, -2, -1, 0, 1, 2, 3, api.MaxVerts - 1, api.MaxVerts, api.MaxVerts + 1, api.MaxLinks, api.MaxRate / 2, api.MaxRate/2 + 1, api.MaxRate - 1, api.MaxRate, api.MaxRate + 1, math.MaxInt - 1, math.MaxInt}

// of makes a graph of links that are told as From, To, Cap.
func of(verts int, links ...[3]int) api.Graph {
	g := api.Graph{Verts: verts}
	for _, l := range links {
		g.Links = append(g.Links, api.Link{From: l[0], To: l[1], Cap: l[2]})
	}
	return g
}

// many makes a graph of n links from 0 to 1, each with that cap.
func many(verts int, n int, most int) api.Graph {
	g := api.Graph{Verts: verts}
	for range n {
		g.Links = append(g.Links, api.Link{From: 0, To: 1, Cap: most})
	}
	return g
}

// with gives g's copy with one more link.
func with(g api.Graph, l api.Link) api.Graph {
	return api.Graph{Verts: g.Verts, Links: append(slices.Clone(g.Links), l)}
}

// kind is a graph and what its caps are together.
type kind struct {
	name  string
	g     api.Graph
	total int
}

// right: graphs that may be, at the edges and between them.
func right() []kind {
	const most = api.MaxRate
	return []kind{
		{"two vertices, no links", of(2), 0},
		{"two vertices, an empty list", api.Graph{Verts: 2, Links: []api.Link{}}, 0},
		{"three vertices, no links", of(3), 0},
		{"MaxVerts vertices, no links", of(api.MaxVerts), 0},
		{"one link", of(2, [3]int{0, 1, 5}), 5},
		{"one link back", of(2, [3]int{1, 0, 5}), 5},
		{"there and back", of(2, [3]int{0, 1, 5}, [3]int{1, 0, 6}), 11},
		{"a cap of 0", of(2, [3]int{0, 1, 0}), 0},
		{"a cap of 1", of(2, [3]int{0, 1, 1}), 1},
		{"a cap of MaxRate", of(2, [3]int{1, 0, most}), most},
		{"a cap of MaxRate, others of 0", of(3, [3]int{0, 1, 0}, [3]int{1, 2, most}, [3]int{2, 0, 0}), most},
		{"a cap of one below MaxRate, and one", of(2, [3]int{0, 1, most - 1}, [3]int{0, 1, 1}), most},
		{"MaxRate together, by two", of(2, [3]int{0, 1, most / 2}, [3]int{1, 0, most / 2}), most},
		{"one below MaxRate together", of(2, [3]int{0, 1, most/2 - 1}, [3]int{1, 0, most / 2}), most - 1},
		{"several with one From and one To", of(3, [3]int{0, 2, 1}, [3]int{0, 2, 2}, [3]int{0, 2, 2}, [3]int{2, 0, 3}), 8},
		{"from the first to the last", of(api.MaxVerts, [3]int{0, api.MaxVerts - 1, 4}), 4},
		{"from the last to the first", of(api.MaxVerts, [3]int{api.MaxVerts - 1, 0, 4}), 4},
		{"a round", of(4, [3]int{0, 1, 1}, [3]int{1, 2, 2}, [3]int{2, 3, 3}, [3]int{3, 0, 4}), 10},
		{"one link fewer than MaxLinks", many(3, api.MaxLinks-1, 7), 7 * (api.MaxLinks - 1)},
		{"MaxLinks links", many(3, api.MaxLinks, 7), 7 * api.MaxLinks},
		{"MaxLinks links of 0", many(2, api.MaxLinks, 0), 0},
		{"MaxLinks links, MaxRate together", many(2, api.MaxLinks, most/api.MaxLinks), most},
		{"all of it", many(api.MaxVerts, api.MaxLinks, most/api.MaxLinks), most},
	}
}

// wrong: graphs that may not be.
func wrong() []kind {
	const most = api.MaxRate
	kinds := []kind{
		{"nothing", api.Graph{}, 0},
		{"no vertices, an empty list", api.Graph{Links: []api.Link{}}, 0},
		{"one vertex", of(1), 0},
		{"below none", of(-1), 0},
		{"minus two", of(-2), 0},
		{"one above MaxVerts", of(api.MaxVerts + 1), 0},
		{"the greatest int of vertices", of(math.MaxInt), 0},
		{"the least int of vertices", of(math.MinInt), 0},
		{"one vertex, a link", of(1, [3]int{0, 1, 1}), 0},
		{"too many vertices, a link", of(api.MaxVerts+1, [3]int{0, 1, 1}), 0},
		{"too many vertices, a link to the last", of(api.MaxVerts+1, [3]int{0, api.MaxVerts, 1}), 0},
		{"one link above MaxLinks", many(2, api.MaxLinks+1, 1), 0},
		{"one link above MaxLinks, of 0", many(api.MaxVerts, api.MaxLinks+1, 0), 0},
		{"twice MaxLinks", many(2, 2*api.MaxLinks, 1), 0},
		{"a From below 0", of(2, [3]int{-1, 1, 1}), 0},
		{"a From that is Verts", of(2, [3]int{2, 1, 1}), 0},
		{"a From that is Verts, of MaxVerts", of(api.MaxVerts, [3]int{api.MaxVerts, 1, 1}), 0},
		{"the greatest int as From", of(2, [3]int{math.MaxInt, 1, 1}), 0},
		{"the least int as From", of(2, [3]int{math.MinInt, 1, 1}), 0},
		{"a To below 0", of(2, [3]int{0, -1, 1}), 0},
		{"a To that is Verts", of(2, [3]int{0, 2, 1}), 0},
		{"a To that is Verts, of MaxVerts", of(api.MaxVerts, [3]int{0, api.MaxVerts, 1}), 0},
		{"the greatest int as To", of(2, [3]int{0, math.MaxInt, 1}), 0},
		{"the least int as To", of(2, [3]int{0, math.MinInt, 1}), 0},
		{"From and To no vertices", of(2, [3]int{-1, 2, 1}), 0},
		{"From and To alike", of(2, [3]int{0, 0, 1}), 0},
		{"From and To alike, the last", of(api.MaxVerts, [3]int{api.MaxVerts - 1, api.MaxVerts - 1, 1}), 0},
		{"From and To alike, a Cap of 0", of(2, [3]int{1, 1, 0}), 0},
		{"a Cap below 0", of(2, [3]int{0, 1, -1}), 0},
		{"a Cap above MaxRate", of(2, [3]int{0, 1, most + 1}), 0},
		{"the greatest int as Cap", of(2, [3]int{0, 1, math.MaxInt}), 0},
		{"the least int as Cap", of(2, [3]int{0, 1, math.MinInt}), 0},
		{"a Cap below 0, a total of 0", of(2, [3]int{0, 1, 1}, [3]int{0, 1, -1}), 0},
		{"a Cap below 0 ahead, a total of 0", of(2, [3]int{0, 1, -1}, [3]int{0, 1, 1}), 0},
		{"a Cap above MaxRate, a total of MaxRate", of(2, [3]int{0, 1, most + 1}, [3]int{0, 1, -1}), 0},
		{"one above MaxRate together", of(2, [3]int{0, 1, most}, [3]int{0, 1, 1}), 0},
		{"one above MaxRate together, the greater last", of(3, [3]int{0, 1, 1}, [3]int{1, 2, most}), 0},
		{"one above MaxRate together, by halves", of(2, [3]int{0, 1, most/2 + 1}, [3]int{1, 0, most / 2}), 0},
		{"twice MaxRate together, not an int", of(2, [3]int{0, 1, most}, [3]int{1, 0, most}), 0},
		{"four times MaxRate together, 0 in an int", many(2, 4, most), 0},
		{"five times MaxRate together, MaxRate in an int", many(2, 5, most), 0},
		{"MaxLinks times MaxRate together", many(2, api.MaxLinks, most), 0},
		{"MaxLinks links, a little above together", with(many(2, api.MaxLinks-1, most/api.MaxLinks), api.Link{From: 1, To: 0, Cap: most/api.MaxLinks + 1}), 0},
		{"four times the greatest int", many(2, 4, math.MaxInt), 0},
		{"twice the least int, 0 in an int", many(2, 2, math.MinInt), 0},
		{"the least and the greatest int", of(2, [3]int{0, 1, math.MinInt}, [3]int{0, 1, math.MaxInt}, [3]int{0, 1, 1}), 0},
	}
	return append(kinds, wrongAtEachPlace()...)
}

// wrongAtEachPlace: MaxLinks links, of which one at a time is not as it must be.
func wrongAtEachPlace() []kind {
	links := []api.Link{
		{From: -1, To: 1, Cap: 1},
		{From: 3, To: 1, Cap: 1},
		{From: 0, To: -1, Cap: 1},
		{From: 0, To: 3, Cap: 1},
		{From: 2, To: 2, Cap: 1},
		{From: 0, To: 1, Cap: -1},
		{From: 0, To: 1, Cap: api.MaxRate + 1},
		{From: 0, To: 1, Cap: api.MaxRate},
	}
	var kinds []kind
	for place := range api.MaxLinks {
		for _, l := range links {
			g := many(3, api.MaxLinks, 1)
			g.Links[place] = l
			kinds = append(kinds, kind{"one of MaxLinks wrong", g, 0})
		}
	}
	return kinds
}

// may says whether g may be, by the words of the chapter, its caps added up as unbounded numbers.
func may(g api.Graph) bool {
	verts := make([]int, 0, api.MaxVerts)
	for v := range api.MaxVerts {
		if v < g.Verts {
			verts = append(verts, v)
		}
	}
	if len(verts) != g.Verts || len(verts) < 2 || len(g.Links) > api.MaxLinks {
		return false
	}
	total := new(big.Int)
	for _, l := range g.Links {
		if !slices.Contains(verts, l.From) || !slices.Contains(verts, l.To) || l.From == l.To || l.Cap < 0 {
			return false
		}
		total.Add(total, big.NewInt(int64(l.Cap)))
	}
	return total.Cmp(big.NewInt(api.MaxRate)) <= 0
}

// check holds all calls of g, and of the vertices vs, against the words of the chapter.
func check(t *testing.T, g api.Graph, vs ...int) {
	t.Helper()
	ok := may(g)
	if graph.May(g) != ok {
		t.Errorf("May(%v): %t", g, !ok)
	}
	wantTotal, wantErr := 0, api.ErrGraphForm
	if ok {
		wantErr = api.OK
		for _, l := range g.Links {
			wantTotal += l.Cap
		}
	}
	if n, err := graph.Total(g); n != wantTotal || err != wantErr {
		t.Errorf("Total(%v): %d, %d, want %d, %d", g, n, err, wantTotal, wantErr)
	}
	for _, v := range vs {
		checkVertex(t, g, v, ok)
	}
}

func checkVertex(t *testing.T, g api.Graph, v int, ok bool) {
	t.Helper()
	want := api.ErrGraphForm
	var out, in []int
	if ok && v >= 0 && v < g.Verts {
		want = api.OK
		for i, l := range g.Links {
			if l.From == v {
				out = append(out, i)
			}
			if l.To == v {
				in = append(in, i)
			}
		}
	}
	if got, err := graph.Out(g, v); !slices.Equal(got, out) || err != want {
		t.Errorf("Out(%v, %d): %v, %d, want %v, %d", g, v, got, err, out, want)
	}
	if got, err := graph.In(g, v); !slices.Equal(got, in) || err != want {
		t.Errorf("In(%v, %d): %v, %d, want %v, %d", g, v, got, err, in, want)
	}
}

// P4.1: May and Total.

func TestMay(t *testing.T) {
	for _, k := range right() {
		if !graph.May(k.g) {
			t.Errorf("%s: May(%v): false", k.name, k.g)
		}
	}
	for _, k := range wrong() {
		if graph.May(k.g) {
			t.Errorf("%s: May(%v): true", k.name, k.g)
		}
	}
}

func TestTotal(t *testing.T) {
	for _, k := range right() {
		if n, err := graph.Total(k.g); n != k.total || err != api.OK {
			t.Errorf("%s: Total(%v): %d, %d, want %d, OK", k.name, k.g, n, err, k.total)
		}
	}
	for _, k := range wrong() {
		if n, err := graph.Total(k.g); n != 0 || err != api.ErrGraphForm {
			t.Errorf("%s: Total(%v): %d, %d, want 0, ErrGraphForm", k.name, k.g, n, err)
		}
	}
}

// P4.1: Out and In.

func TestOutAndIn(t *testing.T) {
	g := of(4, [3]int{0, 1, 3}, [3]int{2, 1, 0}, [3]int{0, 1, 4}, [3]int{1, 0, 5}, [3]int{0, 2, 6})
	rows := []struct{ out, in []int }{
		{[]int{0, 2, 4}, []int{3}},
		{[]int{3}, []int{0, 1, 2}},
		{[]int{1}, []int{4}},
		{nil, nil},
	}
	for v, row := range rows {
		if out, err := graph.Out(g, v); !slices.Equal(out, row.out) || err != api.OK {
			t.Errorf("Out(%d): %v, %d, want %v, OK", v, out, err, row.out)
		}
		if in, err := graph.In(g, v); !slices.Equal(in, row.in) || err != api.OK {
			t.Errorf("In(%d): %v, %d, want %v, OK", v, in, err, row.in)
		}
	}
}

func TestOutAndInOfAllLinks(t *testing.T) {
	all := make([]int, api.MaxLinks)
	for i := range all {
		all[i] = i
	}
	last := api.MaxVerts - 1
	g := api.Graph{Verts: api.MaxVerts}
	for range all {
		g.Links = append(g.Links, api.Link{From: last, To: 0})
	}
	for v := range api.MaxVerts {
		var wantOut, wantIn []int
		if v == last {
			wantOut = all
		}
		if v == 0 {
			wantIn = all
		}
		if out, err := graph.Out(g, v); !slices.Equal(out, wantOut) || err != api.OK {
			t.Errorf("Out(%d): %v, %d, want %v, OK", v, out, err, wantOut)
		}
		if in, err := graph.In(g, v); !slices.Equal(in, wantIn) || err != api.OK {
			t.Errorf("In(%d): %v, %d, want %v, OK", v, in, err, wantIn)
		}
	}
}

func TestOutAndInOfNoVertex(t *testing.T) {
	for _, k := range right() {
		for _, v := range []int{-1, -2, k.g.Verts, k.g.Verts + 1, api.MaxVerts, math.MaxInt, math.MinInt} {
			if out, err := graph.Out(k.g, v); len(out) != 0 || err != api.ErrGraphForm {
				t.Errorf("%s: Out(%v, %d): %v, %d, want none, ErrGraphForm", k.name, k.g, v, out, err)
			}
			if in, err := graph.In(k.g, v); len(in) != 0 || err != api.ErrGraphForm {
				t.Errorf("%s: In(%v, %d): %v, %d, want none, ErrGraphForm", k.name, k.g, v, in, err)
			}
		}
	}
}

func TestOutAndInOfAGraphThatMayNotBe(t *testing.T) {
	for _, k := range wrong() {
		for v := -1; v <= api.MaxVerts+1; v++ {
			if out, err := graph.Out(k.g, v); len(out) != 0 || err != api.ErrGraphForm {
				t.Errorf("%s: Out(%v, %d): %v, %d, want none, ErrGraphForm", k.name, k.g, v, out, err)
			}
			if in, err := graph.In(k.g, v); len(in) != 0 || err != api.ErrGraphForm {
				t.Errorf("%s: In(%v, %d): %v, %d, want none, ErrGraphForm", k.name, k.g, v, in, err)
			}
		}
	}
}

// P4.1, all calls: against the words of the chapter.

func TestAtAllEdges(t *testing.T) {
	for _, k := range slices.Concat(right(), wrong()) {
		check(t, k.g, edges...)
	}
	for _, verts := range edges {
		for n := range api.MaxLinks + 3 {
			check(t, many(verts, n, n), 0, 1, verts-1, verts)
		}
		for _, from := range edges {
			for _, to := range edges {
				check(t, of(verts, [3]int{from, to, 1}), 0, 1, from, to)
			}
		}
	}
	for _, a := range edges {
		for _, b := range edges {
			for _, c := range edges {
				check(t, of(3, [3]int{0, 1, a}, [3]int{2, 0, b}, [3]int{1, 2, c}), 0, 2)
			}
		}
	}
}

func TestWhateverGraph(t *testing.T) {
	r := rand.New(rand.NewSource(4))
	for range 20000 {
		g := api.Graph{Verts: r.Intn(api.MaxVerts + 3)}
		for range r.Intn(api.MaxLinks + 2) {
			l := api.Link{From: r.Intn(g.Verts + 1), To: r.Intn(g.Verts + 1), Cap: r.Intn(5)}
			if r.Intn(3) > 0 && g.Verts > 1 {
				l.From = r.Intn(g.Verts)
				l.To = (l.From + 1 + r.Intn(g.Verts-1)) % g.Verts
			}
			if r.Intn(20) == 0 {
				l.Cap = edges[r.Intn(len(edges))]
			}
			g.Links = append(g.Links, l)
		}
		check(t, g, -1, 0, 1, 2, 3, 4, 5, 6, 7, 8, 9)
	}
}

// R4: what is handed in is not changed, nor its spare room, nor kept; answers are new memory.

func TestWhatIsHandedInIsNotChanged(t *testing.T) {
	for _, k := range slices.Concat(right(), wrong()) {
		spare := api.Link{From: -7, To: -8, Cap: -9}
		room := append(slices.Clone(k.g.Links), spare, spare, spare)
		was := slices.Clone(room)
		g := api.Graph{Verts: k.g.Verts, Links: room[:len(k.g.Links)]}
		graph.May(g)
		graph.Total(g)
		for v := -1; v <= api.MaxVerts; v++ {
			graph.Out(g, v)
			graph.In(g, v)
		}
		if !slices.Equal(room, was) {
			t.Errorf("%s: changed: %v, was %v", k.name, room, was)
		}
	}
}

func TestAnswersAreNewMemory(t *testing.T) {
	g := of(3, [3]int{0, 1, 1}, [3]int{0, 1, 2}, [3]int{2, 1, 3})
	first, _ := graph.Out(g, 0)
	second, _ := graph.Out(g, 0)
	third, _ := graph.In(g, 1)
	fourth, _ := graph.In(g, 1)
	for _, list := range [][]int{first, third} {
		for i := range list[:cap(list)] {
			list[:cap(list)][i] = -5
		}
	}
	again, _ := graph.Out(g, 0)
	more, _ := graph.In(g, 1)
	if !slices.Equal(second, []int{0, 1}) || !slices.Equal(again, []int{0, 1}) {
		t.Errorf("Out: %v, then %v", second, again)
	}
	if !slices.Equal(fourth, []int{0, 1, 2}) || !slices.Equal(more, []int{0, 1, 2}) {
		t.Errorf("In: %v, then %v", fourth, more)
	}
}

func TestWhatIsHandedInIsNotKept(t *testing.T) {
	g := of(3, [3]int{0, 1, 1}, [3]int{2, 1, 3})
	out, _ := graph.Out(g, 0)
	in, _ := graph.In(g, 1)
	g.Links[0] = api.Link{From: 1, To: 2, Cap: 9}
	if !slices.Equal(out, []int{0}) || !slices.Equal(in, []int{0, 1}) {
		t.Errorf("answers turned: %v, %v", out, in)
	}
	check(t, g, 0, 1, 2)
	g.Links[1].Cap = -1
	check(t, g, 0, 1, 2)
}

// R5: from several goroutines at one time.

func TestFromSeveralGoroutines(t *testing.T) {
	g := many(api.MaxVerts, api.MaxLinks, 3)
	var wg sync.WaitGroup
	for range 8 {
		wg.Go(func() {
			for range 200 {
				out, err := graph.Out(g, 0)
				in, err2 := graph.In(g, 1)
				n, err3 := graph.Total(g)
				if len(out) != api.MaxLinks || len(in) != api.MaxLinks || n != 3*api.MaxLinks || err != api.OK || err2 != api.OK || err3 != api.OK || !graph.May(g) {
					t.Errorf("Out %v, In %v, Total %d: %d, %d, %d", out, in, n, err, err2, err3)
				}
			}
		})
	}
	wg.Wait()
}
