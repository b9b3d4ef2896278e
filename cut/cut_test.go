package cut_test

import (
	"math"
	"math/big"
	"math/rand"
	"slices"
	"sync"
	"testing"

	"tollbar/api"
	"tollbar/cut"
	"tollbar/graph"
	"tollbar/samples"
)

const most = api.MaxRate

// noVertices: lists that are not vertices of town, rising.
func noVertices() [][]int {
	return [][]int{
		{-1}, {4}, {math.MinInt}, {math.MaxInt}, {api.MaxVerts}, {api.MaxVerts - 1},
		{-1, 0}, {0, 4}, {0, 1, 2, 4}, {0, 1, 2, 3, 4}, {-1, 0, 1, 2}, {math.MinInt, 0}, {0, math.MaxInt}, {0, -1}, {4, 0},
		{0, 0}, {2, 2}, {0, 0, 1}, {0, 1, 1}, {0, 1, 1, 2}, {0, 1, 2, 2}, {0, 1, 0}, {0, 1, 2, 0},
		{1, 0}, {2, 0}, {0, 2, 1}, {1, 0, 2}, {2, 1, 0}, {1, 2, 0}, {3, 2, 1, 0},
		make([]int, 5), make([]int, 100000),
	}
}

// P8.1: May.

func TestMay(t *testing.T) {
	for _, x := range []struct {
		src  int
		dst  int
		vs   []int
		want bool
	}{
		{0, 3, []int{0}, true},
		{0, 3, []int{0, 1}, true},
		{0, 3, []int{0, 2}, true},
		{0, 3, []int{0, 1, 2}, true},
		{1, 3, []int{0, 1, 2}, true},
		{2, 3, []int{0, 1, 2}, true},
		{2, 0, []int{1, 2, 3}, true},
		{3, 0, []int{3}, true},
		{3, 1, []int{0, 2, 3}, true},
		{1, 2, []int{1}, true},
		{0, 3, nil, false},
		{0, 3, []int{}, false},
		{0, 3, []int{0, 1, 2, 3}, false},
		{0, 3, []int{1}, false},
		{0, 3, []int{1, 2}, false},
		{0, 3, []int{3}, false},
		{0, 3, []int{0, 3}, false},
		{0, 3, []int{1, 2, 3}, false},
		{0, 0, nil, false},
		{0, 0, []int{0}, false},
		{0, 0, []int{1}, false},
		{0, 0, []int{0, 1, 2, 3}, false},
		{0, -1, []int{0}, false},
		{0, 4, []int{0}, false},
		{0, 4, []int{0, 1, 2, 3}, false},
		{0, math.MaxInt, []int{0}, false},
		{0, math.MinInt, []int{0}, false},
		{-1, 3, []int{0}, false},
		{4, 3, []int{0}, false},
		{4, 0, []int{1}, false},
		{math.MinInt, 3, []int{0}, false},
		{math.MaxInt, 3, []int{0}, false},
		{-1, 3, []int{-1, 0}, false},
		{4, 3, []int{0, 4}, false},
		{4, 3, []int{4}, false},
		{-1, 4, []int{0}, false},
		{4, -1, []int{4}, false},
		{-1, -1, []int{0}, false},
		{-1, -1, []int{-1}, false},
	} {
		if got := cut.May(samples.Town(), x.src, x.dst, x.vs); got != x.want {
			t.Errorf("May(%d, %d, %v): %t", x.src, x.dst, x.vs, got)
		}
	}
	if !cut.May(samples.Graph(2), 0, 1, []int{0}) || !cut.May(samples.Graph(2), 1, 0, []int{1}) || cut.May(samples.Graph(2), 0, 1, []int{1}) {
		t.Error("May of a graph without links")
	}
	if !cut.May(samples.Full(), 0, 7, []int{0, 1, 2, 3, 4, 5, 6}) || !cut.May(samples.Full(), 7, 0, []int{1, 2, 3, 4, 5, 6, 7}) || cut.May(samples.Full(), 0, 7, []int{0, 1, 2, 3, 4, 5, 6, 7}) {
		t.Error("May of as many vertices as may be")
	}
}

func TestMayOfNoVertices(t *testing.T) {
	for _, vs := range noVertices() {
		for src := -1; src <= 4; src++ {
			for dst := -1; dst <= 4; dst++ {
				if cut.May(samples.Town(), src, dst, vs) {
					t.Errorf("May(%d, %d, %v)", src, dst, vs)
				}
			}
		}
	}
}

func TestMayOfBadGraphs(t *testing.T) {
	for _, b := range samples.BadGraphs() {
		for _, vs := range append(noVertices(), nil, []int{0}, []int{0, 1, 2}, []int{3}) {
			if cut.May(b.Graph, 0, 1, vs) || cut.May(b.Graph, 0, 3, vs) || cut.May(b.Graph, 3, 0, vs) || cut.May(b.Graph, -1, 9, vs) {
				t.Errorf("%s: May(%v, %v)", b.Name, b.Graph, vs)
			}
		}
	}
}

// P8.1 and P8.2: Leaving and Worth.

// side is vertices, the links that leave them, and what these take together.
type side struct {
	g     api.Graph
	vs    []int
	links []int
	worth int
}

// sides: all of town's, and those of other graphs.
func sides() []side {
	return []side{
		{samples.Town(), nil, nil, 0},
		{samples.Town(), []int{}, nil, 0},
		{samples.Town(), []int{0}, []int{0, 3, 7}, 7},
		{samples.Town(), []int{1}, []int{1, 4, 6}, 10},
		{samples.Town(), []int{2}, []int{5}, 4},
		{samples.Town(), []int{3}, []int{2}, 7},
		{samples.Town(), []int{0, 1}, []int{1, 4, 7}, 7},
		{samples.Town(), []int{0, 2}, []int{0, 3, 5, 7}, 11},
		{samples.Town(), []int{0, 3}, []int{0, 3}, 7},
		{samples.Town(), []int{1, 2}, []int{1, 5, 6}, 13},
		{samples.Town(), []int{1, 3}, []int{2, 4, 6}, 11},
		{samples.Town(), []int{2, 3}, []int{2}, 7},
		{samples.Town(), []int{0, 1, 2}, []int{1, 5, 7}, 10},
		{samples.Town(), []int{0, 1, 3}, []int{4}, 1},
		{samples.Town(), []int{0, 2, 3}, []int{0, 3}, 7},
		{samples.Town(), []int{1, 2, 3}, []int{2, 6}, 10},
		{samples.Town(), []int{0, 1, 2, 3}, nil, 0},
		{samples.Graph(2), nil, nil, 0},
		{samples.Graph(2), []int{0}, nil, 0},
		{samples.Graph(2), []int{0, 1}, nil, 0},
		{api.Graph{Verts: api.MaxVerts, Links: []api.Link{}}, []int{0, 7}, nil, 0},
		{samples.Graph(2, [3]int{0, 1, 0}), []int{0}, []int{0}, 0},
		{samples.Graph(2, [3]int{0, 1, 5}), []int{1}, nil, 0},
		{samples.Graph(2, [3]int{0, 1, 5}, [3]int{0, 1, 5}, [3]int{1, 0, 9}, [3]int{0, 1, 1}), []int{0}, []int{0, 1, 3}, 11},
		{samples.Graph(2, [3]int{0, 1, 5}, [3]int{0, 1, 5}, [3]int{1, 0, 9}, [3]int{0, 1, 1}), []int{1}, []int{2}, 9},
		{samples.Graph(4, [3]int{2, 3, 5}, [3]int{3, 2, 5}), []int{0, 1}, nil, 0},
		{samples.Graph(4, [3]int{2, 3, 5}, [3]int{3, 2, 5}), []int{2, 3}, nil, 0},
		{samples.Graph(2, [3]int{0, 1, most}), []int{0}, []int{0}, most},
		{samples.Graph(2, [3]int{0, 1, most - 1}, [3]int{0, 1, 1}), []int{0}, []int{0, 1}, most},
		{samples.Graph(3, [3]int{0, 1, most / 2}, [3]int{0, 2, most / 2}), []int{0}, []int{0, 1}, most},
		{samples.Full(), []int{0, 2, 4, 6}, []int{0, 2, 4, 6}, most / 4},
		{samples.Full(), []int{0, 1, 2, 3, 4, 5, 6}, []int{6, 13}, most / 8},
		{samples.Full(), []int{7}, []int{7, 15}, most / 8},
		{samples.Graph(2, slices.Repeat([][3]int{{1, 0, most / api.MaxLinks}}, api.MaxLinks)...), []int{1}, []int{0, 1, 2, 3, 4, 5, 6, 7, 8, 9, 10, 11, 12, 13, 14, 15}, most},
	}
}

func TestLeaving(t *testing.T) {
	for _, s := range sides() {
		if got, err := cut.Leaving(s.g, s.vs); !slices.Equal(got, s.links) || err != api.OK {
			t.Errorf("Leaving(%v, %v): %v, %d, want %v, OK", s.g, s.vs, got, err, s.links)
		}
	}
	for _, vs := range noVertices() {
		if got, err := cut.Leaving(samples.Town(), vs); len(got) != 0 || err != api.ErrCutForm {
			t.Errorf("Leaving(%v): %v, %d", vs, got, err)
		}
	}
	for _, b := range samples.BadGraphs() {
		for _, vs := range append(noVertices(), nil, []int{0}, []int{0, 1}, []int{3}) {
			if got, err := cut.Leaving(b.Graph, vs); len(got) != 0 || err != api.ErrCutForm {
				t.Errorf("%s: Leaving(%v, %v): %v, %d", b.Name, b.Graph, vs, got, err)
			}
		}
	}
}

func TestWorthOfTheGraphsCaps(t *testing.T) {
	for _, s := range sides() {
		if got, err := cut.Worth(s.g, samples.Caps(s.g), s.vs); got != s.worth || err != api.OK {
			t.Errorf("Worth(%v, %v): %d, %d, want %d, OK", s.g, s.vs, got, err, s.worth)
		}
		if got, err := cut.Worth(s.g, make([]int, len(s.g.Links)), s.vs); got != 0 || err != api.OK {
			t.Errorf("Worth(%v, %v) of caps that are all 0: %d, %d", s.g, s.vs, got, err)
		}
	}
}

// The caps that are handed in count, not the links' Caps, and only those of links that leave.
func TestWorthOfEachCap(t *testing.T) {
	for _, s := range sides() {
		for i := range s.g.Links {
			for _, c := range []int{0, min(1, s.g.Links[i].Cap), s.g.Links[i].Cap / 2} {
				caps, want := samples.Caps(s.g), s.worth
				if slices.Contains(s.links, i) {
					want -= caps[i] - c
				}
				caps[i] = c
				if got, err := cut.Worth(s.g, caps, s.vs); got != want || err != api.OK {
					t.Errorf("Worth(%v, %v, %v): %d, %d, want %d, OK", s.g, caps, s.vs, got, err, want)
				}
			}
		}
	}
}

func TestWorthOfWhatMayNotBe(t *testing.T) {
	refused := func(name string, g api.Graph, caps []int, vs []int) {
		t.Helper()
		if got, err := cut.Worth(g, caps, vs); got != 0 || err != api.ErrCutForm {
			t.Errorf("%s: Worth(%v, %v, %v): %d, %d", name, g, caps, vs, got, err)
		}
	}
	for _, vs := range noVertices() {
		refused("no vertices", samples.Town(), samples.Caps(samples.Town()), vs)
		for _, caps := range samples.Outside(samples.Caps(samples.Town())) {
			refused("no vertices and no caps", samples.Town(), caps, vs)
		}
	}
	for _, s := range sides() {
		for _, caps := range samples.Outside(samples.Caps(s.g)) {
			refused("no caps", s.g, caps, s.vs)
		}
	}
	for _, b := range samples.BadGraphs() {
		for _, vs := range [][]int{nil, {0}, {0, 1}, {1, 0}, {9}} {
			for _, caps := range [][]int{nil, {}, {0}, samples.Caps(b.Graph), make([]int, len(b.Graph.Links))} {
				refused(b.Name, b.Graph, caps, vs)
			}
		}
	}
}

// P8.2: Proves.

// proof is what Proves is asked of vertices that may be a cut, and their Worth.
type proof struct {
	g     api.Graph
	caps  []int
	src   int
	dst   int
	vs    []int
	worth int
}

// proofs: cuts that may be, with caps that are all 0, that are the links' Caps, and others.
func proofs() []proof {
	one := samples.Graph(2, [3]int{0, 1, 5})
	wide := samples.Graph(2, [3]int{0, 1, most - 1}, [3]int{0, 1, 1})
	return []proof{
		{samples.Town(), samples.Caps(samples.Town()), 0, 3, []int{0}, 7},
		{samples.Town(), samples.Caps(samples.Town()), 0, 3, []int{0, 1}, 7},
		{samples.Town(), samples.Caps(samples.Town()), 0, 3, []int{0, 2}, 11},
		{samples.Town(), samples.Caps(samples.Town()), 1, 3, []int{0, 1, 2}, 10},
		{samples.Town(), samples.Caps(samples.Town()), 3, 2, []int{0, 1, 3}, 1},
		{samples.Town(), samples.Caps(samples.Town()), 3, 1, []int{2, 3}, 7},
		{samples.Town(), make([]int, 8), 0, 3, []int{0}, 0},
		{samples.Town(), []int{1, 6, 7, 1, 1, 4, 3, 0}, 0, 3, []int{0}, 2},
		{samples.Town(), []int{5, 0, 7, 2, 0, 4, 3, 0}, 0, 3, []int{0, 1}, 0},
		{one, []int{5}, 0, 1, []int{0}, 5},
		{one, []int{4}, 0, 1, []int{0}, 4},
		{one, []int{0}, 0, 1, []int{0}, 0},
		{one, []int{5}, 1, 0, []int{1}, 0},
		{samples.Graph(2), nil, 0, 1, []int{0}, 0},
		{samples.Graph(api.MaxVerts), []int{}, 7, 0, []int{7}, 0},
		{wide, samples.Caps(wide), 0, 1, []int{0}, most},
		{wide, []int{most - 1, 0}, 0, 1, []int{0}, most - 1},
		{samples.Full(), samples.Caps(samples.Full()), 0, 7, []int{0, 1, 2, 3, 4, 5, 6}, most / 8},
	}
}

func TestProves(t *testing.T) {
	for _, p := range proofs() {
		for _, rate := range []int{math.MinInt, -most, -1, 0, 1, p.worth - 1, p.worth, p.worth + 1, most, most + 1, math.MaxInt} {
			if got, err := cut.Proves(p.g, p.caps, p.src, p.dst, rate, p.vs); got != (p.worth < rate) || err != api.OK {
				t.Errorf("Proves(%v, %v, %d, %d, %d, %v): %t, %d, worth %d", p.g, p.caps, p.src, p.dst, rate, p.vs, got, err, p.worth)
			}
		}
	}
}

// Vertices that are no cut between src and dst prove nothing, and are no error.
func TestProvesOfNoCut(t *testing.T) {
	g, caps := samples.Town(), make([]int, 8)
	prove := func(src int, dst int, vs []int) {
		t.Helper()
		for _, rate := range []int{math.MinInt, 0, 1, most, math.MaxInt} {
			if got, err := cut.Proves(g, caps, src, dst, rate, vs); got || err != api.OK {
				t.Errorf("Proves(%d, %d, %d, %v): %t, %d", src, dst, rate, vs, got, err)
			}
		}
	}
	for _, vs := range append(noVertices(), nil, []int{}, []int{1}, []int{3}, []int{0, 3}, []int{0, 1, 2, 3}) {
		prove(0, 3, vs)
		prove(-1, 3, vs)
		prove(0, 4, vs)
		prove(0, 0, vs)
	}
	for _, no := range []int{math.MinInt, -1, 4, api.MaxVerts, math.MaxInt} {
		prove(no, 3, []int{0})
		prove(0, no, []int{0})
		prove(no, no, []int{0})
		prove(no, 3, []int{no})
	}
}

// Caps that are none come ahead of all that is asked of the cut, and so does a graph that may not be.
func TestProvesOfWhatMayNotBe(t *testing.T) {
	refused := func(name string, g api.Graph, caps []int, src int, dst int, rate int, vs []int) {
		t.Helper()
		if got, err := cut.Proves(g, caps, src, dst, rate, vs); got || err != api.ErrCutForm {
			t.Errorf("%s: Proves(%v, %v, %d, %d, %d, %v): %t, %d", name, g, caps, src, dst, rate, vs, got, err)
		}
	}
	for _, p := range proofs() {
		for _, caps := range samples.Outside(samples.Caps(p.g)) {
			refused("no caps", p.g, caps, p.src, p.dst, most, p.vs)
			refused("no caps, a rate of 0", p.g, caps, p.src, p.dst, 0, p.vs)
			refused("no caps, a rate below 0", p.g, caps, p.src, p.dst, -1, p.vs)
			refused("no caps, no src", p.g, caps, -1, p.dst, most, p.vs)
			refused("no caps, no dst", p.g, caps, p.src, p.g.Verts, most, p.vs)
			refused("no caps, src and dst one", p.g, caps, p.src, p.src, most, p.vs)
			refused("no caps, no vertex at all", p.g, caps, p.src, p.dst, most, nil)
			refused("no caps, no vertices", p.g, caps, p.src, p.dst, most, []int{p.src, p.src})
		}
	}
	for _, b := range samples.BadGraphs() {
		for _, caps := range [][]int{nil, {}, {0}, {-1}, samples.Caps(b.Graph), make([]int, len(b.Graph.Links))} {
			for _, vs := range [][]int{nil, {0}, {0, 1}, {1, 0}, {-1}} {
				refused(b.Name, b.Graph, caps, 0, 1, 5, vs)
				refused(b.Name, b.Graph, caps, 0, 3, math.MaxInt, vs)
				refused(b.Name, b.Graph, caps, -1, 0, 0, vs)
			}
		}
	}
}

// P8.1 and P8.2: against the words of the chapter.

// areVertices: are vs vertices of g, each above all that are ahead of it?
func areVertices(g api.Graph, vs []int) bool {
	for i, v := range vs {
		if v < 0 || v >= g.Verts {
			return false
		}
		if slices.ContainsFunc(vs[:i], func(w int) bool { return w >= v }) {
			return false
		}
	}
	return true
}

// areCaps: are they as many rates as g has links, none above its link's Cap?
func areCaps(g api.Graph, caps []int) bool {
	if len(caps) != len(g.Links) {
		return false
	}
	for i, c := range caps {
		if c < 0 || c > most || c > g.Links[i].Cap {
			return false
		}
	}
	return true
}

// answers says what May, Leaving and Worth must, and Worth as a number without bounds.
func answers(g api.Graph, caps []int, src int, dst int, vs []int) (may bool, links []int, worth *big.Int) {
	inside := map[int]bool{}
	for _, v := range vs {
		inside[v] = true
	}
	worth = new(big.Int)
	for i, l := range g.Links {
		if inside[l.From] && !inside[l.To] {
			links = append(links, i)
			if i < len(caps) {
				worth.Add(worth, big.NewInt(int64(caps[i])))
			}
		}
	}
	may = graph.May(g) && areVertices(g, []int{src}) && areVertices(g, []int{dst}) && areVertices(g, vs) && inside[src] && !inside[dst]
	return may, links, worth
}

// check holds all four calls against the words of the chapter, and tells whether the vertices may be a cut.
func check(t *testing.T, g api.Graph, caps []int, src int, dst int, rate int, vs []int) bool {
	t.Helper()
	may, links, worth := answers(g, caps, src, dst, vs)
	proves := may && worth.Cmp(big.NewInt(int64(rate))) < 0
	leavingErr, worthErr, provesErr := api.OK, api.OK, api.OK
	if !graph.May(g) || !areVertices(g, vs) {
		links, leavingErr = nil, api.ErrCutForm
	}
	if leavingErr != api.OK || !areCaps(g, caps) {
		worth, worthErr = new(big.Int), api.ErrCutForm
	}
	if !graph.May(g) || !areCaps(g, caps) {
		proves, provesErr = false, api.ErrCutForm
	}
	if got := cut.May(g, src, dst, vs); got != may {
		t.Errorf("May(%v, %d, %d, %v): %t", g, src, dst, vs, got)
	}
	if got, err := cut.Leaving(g, vs); !slices.Equal(got, links) || err != leavingErr {
		t.Errorf("Leaving(%v, %v): %v, %d, want %v, %d", g, vs, got, err, links, leavingErr)
	}
	if got, err := cut.Worth(g, caps, vs); big.NewInt(int64(got)).Cmp(worth) != 0 || err != worthErr {
		t.Errorf("Worth(%v, %v, %v): %d, %d, want %v, %d", g, caps, vs, got, err, worth, worthErr)
	}
	if got, err := cut.Proves(g, caps, src, dst, rate, vs); got != proves || err != provesErr {
		t.Errorf("Proves(%v, %v, %d, %d, %d, %v): %t, %d, want %t, %d", g, caps, src, dst, rate, vs, got, err, proves, provesErr)
	}
	return may
}

func TestAllSmallLists(t *testing.T) {
	triangle := samples.Graph(3, [3]int{0, 1, 3}, [3]int{1, 2, 2}, [3]int{2, 0, 1}, [3]int{0, 2, 0}, [3]int{1, 0, 2}, [3]int{0, 1, 1})
	broken := api.Graph{Verts: 3, Links: append(slices.Clone(triangle.Links), api.Link{From: 1, To: 1})}
	allCaps := [][]int{samples.Caps(triangle), make([]int, 6), {3, 2, 1, 1, 2, 1}, {2, 1, 0, 0, 1, 1}, {3, 2, 1, 0, 2}, append(samples.Caps(triangle), 0)}
	for _, vs := range samples.Lists([]int{-1, 0, 1, 2, 3}, 4) {
		for _, caps := range allCaps {
			for src := -1; src <= 3; src++ {
				for dst := -1; dst <= 3; dst++ {
					for rate := -1; rate <= 6; rate++ {
						check(t, triangle, caps, src, dst, rate, vs)
					}
					check(t, broken, caps, src, dst, 9, vs)
				}
			}
		}
	}
}

// someCaps makes caps of the graph by chance; now and then one of them is none.
func someCaps(r *rand.Rand, g api.Graph) []int {
	caps := samples.Caps(g)
	for i, c := range caps {
		if r.Intn(2) == 0 {
			caps[i] = r.Intn(c + 1)
		}
		if r.Intn(100) == 0 {
			caps[i] = []int{-1, c + 1}[r.Intn(2)]
		}
	}
	return caps
}

func TestWhateverCuts(t *testing.T) {
	r := rand.New(rand.NewSource(8))
	cuts := 0
	for range 20000 {
		size := []int{1, 6, 1000, most / api.MaxLinks}[r.Intn(4)]
		g := samples.Drawn(r.Intn, size)
		caps := someCaps(r, g)
		var vs []int
		for v := range g.Verts {
			if r.Intn(2) == 0 {
				vs = append(vs, v)
			}
		}
		if len(vs) > 0 && r.Intn(20) == 0 {
			vs[r.Intn(len(vs))] = r.Intn(g.Verts+2) - 1
		}
		src, dst := r.Intn(g.Verts), r.Intn(g.Verts)
		worth, _ := cut.Worth(g, caps, vs)
		for _, rate := range []int{worth - 1, worth, worth + 1, r.Intn(size)} {
			if check(t, g, caps, src, dst, rate, vs) {
				cuts++
			}
		}
	}
	if cuts < 1000 {
		t.Errorf("only %d of all may be", cuts)
	}
}

// R4: what is handed in is not changed, nor its spare room, nor kept; answers are new memory.

func TestWhatIsHandedInIsNotChanged(t *testing.T) {
	untouched := func(g api.Graph, caps []int, vs []int) {
		t.Helper()
		links, wholeLinks := samples.Roomy(g.Links, api.Link{From: -7, To: -8, Cap: -9})
		caps, wholeCaps := samples.Roomy(caps, -7)
		vs, wholeVerts := samples.Roomy(vs, -7)
		wasLinks, wasCaps, wasVerts := slices.Clone(wholeLinks), slices.Clone(wholeCaps), slices.Clone(wholeVerts)
		handed := api.Graph{Verts: g.Verts, Links: links}
		cut.Leaving(handed, vs)
		cut.Worth(handed, caps, vs)
		for src := range 3 {
			cut.May(handed, src, 3, vs)
			cut.Proves(handed, caps, src, 3, 8, vs)
		}
		if !slices.Equal(wholeLinks, wasLinks) || !slices.Equal(wholeCaps, wasCaps) || !slices.Equal(wholeVerts, wasVerts) {
			t.Errorf("changed: %v, %v, %v", wholeLinks, wholeCaps, wholeVerts)
		}
	}
	for _, s := range sides() {
		untouched(s.g, samples.Caps(s.g), s.vs)
		for _, caps := range samples.Outside(samples.Caps(s.g)) {
			untouched(s.g, caps, s.vs)
		}
	}
	for _, vs := range noVertices() {
		untouched(samples.Town(), samples.Caps(samples.Town()), vs)
	}
	for _, b := range samples.BadGraphs() {
		untouched(b.Graph, samples.Caps(b.Graph), []int{0, 1})
	}
}

func TestAnswersAreNewMemory(t *testing.T) {
	for _, s := range sides() {
		caps, vs := samples.Caps(s.g), slices.Clone(s.vs)
		links, _ := cut.Leaving(s.g, vs)
		other, _ := cut.Leaving(s.g, vs)
		samples.Spoil(links)
		more, err := cut.Leaving(s.g, vs)
		if !slices.Equal(other, s.links) || !slices.Equal(more, s.links) || err != api.OK || !slices.Equal(vs, s.vs) {
			t.Errorf("%v: %v, then %v, want %v", s.vs, other, more, s.links)
		}
		if worth, err := cut.Worth(s.g, caps, vs); worth != s.worth || err != api.OK {
			t.Errorf("%v: %d, %d, want %d", s.vs, worth, err, s.worth)
		}
	}
}

func TestWhatIsHandedInIsNotKept(t *testing.T) {
	for _, s := range sides() {
		g := api.Graph{Verts: s.g.Verts, Links: slices.Clone(s.g.Links)}
		caps, vs := samples.Caps(g), slices.Clone(s.vs)
		links, _ := cut.Leaving(g, vs)
		worth, _ := cut.Worth(g, caps, vs)
		for i := range g.Links {
			g.Links[i] = api.Link{From: 1, To: 0, Cap: 2}
			caps[i] = 1
		}
		samples.Spoil(vs)
		if !slices.Equal(links, s.links) || worth != s.worth {
			t.Errorf("%v: the answer turned: %v, %d", s.vs, links, worth)
		}
		check(t, g, caps, 1, 0, 2, []int{1})
		check(t, s.g, samples.Caps(s.g), 0, 1, 2, s.vs)
	}
}

// R5: from several goroutines at one time.

func TestFromSeveralGoroutines(t *testing.T) {
	g, caps, vs := samples.Town(), samples.Caps(samples.Town()), []int{0, 1, 2}
	var all sync.WaitGroup
	for range 8 {
		all.Go(func() {
			for range 200 {
				links, err := cut.Leaving(g, vs)
				worth, err2 := cut.Worth(g, caps, vs)
				proves, err3 := cut.Proves(g, caps, 0, 3, 11, vs)
				if !slices.Equal(links, []int{1, 5, 7}) || worth != 10 || !proves || err != api.OK || err2 != api.OK || err3 != api.OK || !cut.May(g, 0, 3, vs) {
					t.Errorf("Leaving %v, Worth %d, Proves %t: %d, %d, %d", links, worth, proves, err, err2, err3)
				}
			}
		})
	}
	all.Wait()
}
