package path_test

import (
	"math"
	"math/rand"
	"slices"
	"sync"
	"testing"

	"tollbar/api"
	"tollbar/graph"
	"tollbar/path"
)

// edges: numbers at which an answer may turn.
var edges = []int{math.MinInt, math.MinInt + 1, -api.MaxRate, -api.MaxLinks, -2, -1, 0, 1, 2, 3, 4, 5, 6, api.MaxVerts - 1, api.MaxVerts, api.MaxVerts + 1, api.MaxLinks - 1, api.MaxLinks, api.MaxLinks + 1, api.MaxWalk, api.MaxRate, math.MaxInt - 1, math.MaxInt}

// of makes a graph of links that are told as From, To; their Caps say nothing of where one may walk.
func of(verts int, links ...[2]int) api.Graph {
	g := api.Graph{Verts: verts}
	for i, l := range links {
		g.Links = append(g.Links, api.Link{From: l[0], To: l[1], Cap: i % 3})
	}
	return g
}

// many makes a graph of n links from one vertex to another one.
func many(verts int, n int, from int, to int) api.Graph {
	g := api.Graph{Verts: verts}
	for range n {
		g.Links = append(g.Links, api.Link{From: from, To: to, Cap: 1})
	}
	return g
}

// capped makes a graph of two vertices and of links from 0 to 1 with these Caps.
func capped(caps ...int) api.Graph {
	g := api.Graph{Verts: 2}
	for _, c := range caps {
		g.Links = append(g.Links, api.Link{From: 0, To: 1, Cap: c})
	}
	return g
}

// town: links 0 to 4 go round all five vertices, 5 to 9 the other way round, 10 and 11 lie beside 0, and 12 goes from 1 to 4.
func town() api.Graph {
	return of(5,
		[2]int{0, 1}, [2]int{1, 2}, [2]int{2, 3}, [2]int{3, 4}, [2]int{4, 0},
		[2]int{1, 0}, [2]int{2, 1}, [2]int{3, 2}, [2]int{4, 3}, [2]int{0, 4},
		[2]int{0, 1}, [2]int{0, 1}, [2]int{1, 4})
}

// line: link i goes from vertex i to the next one, as far as there are vertices.
func line() api.Graph {
	g := api.Graph{Verts: api.MaxVerts}
	for v := range api.MaxVerts - 1 {
		g.Links = append(g.Links, api.Link{From: v, To: v + 1, Cap: 1})
	}
	return g
}

// pair: link 0 goes from 0 to 1, link 1 back, and those behind them as link 0.
func pair() api.Graph {
	return of(2, [2]int{0, 1}, [2]int{1, 0}, [2]int{0, 1})
}

// backAndForth: n links of pair, from 0 on.
func backAndForth(n int) []int {
	var ls []int
	for i := range n {
		ls = append(ls, i%2)
	}
	return ls
}

// trip is a walk and, written out, the vertices that it comes to, whether it is one without a vertex twice, and what is left of it without loops.
type trip struct {
	name string
	g    api.Graph
	src  int
	ls   []int
	vs   []int
	may  bool
	left []int
}

// trips: walks, ordinary ones and those at the edges.
func trips() []trip {
	const most = api.MaxWalk
	return []trip{
		{"no links at all", town(), 0, nil, []int{0}, false, nil},
		{"an empty list", town(), 3, []int{}, []int{3}, false, nil},
		{"no links, at the last vertex", town(), 4, nil, []int{4}, false, nil},
		{"no links in a graph of none", of(2), 1, nil, []int{1}, false, nil},
		{"one link", town(), 0, []int{0}, []int{0, 1}, true, []int{0}},
		{"the first link of many", many(2, api.MaxLinks, 1, 0), 1, []int{0}, []int{1, 0}, true, []int{0}},
		{"the last link of many", many(api.MaxVerts, api.MaxLinks, 7, 0), 7, []int{api.MaxLinks - 1}, []int{7, 0}, true, []int{api.MaxLinks - 1}},
		{"a link of Cap 0", capped(0), 0, []int{0}, []int{0, 1}, true, []int{0}},
		{"a link of Cap MaxRate", capped(api.MaxRate), 0, []int{0}, []int{0, 1}, true, []int{0}},
		{"two links", town(), 1, []int{12, 4}, []int{1, 4, 0}, true, []int{12, 4}},
		{"all vertices", town(), 0, []int{0, 1, 2, 3}, []int{0, 1, 2, 3, 4}, true, []int{0, 1, 2, 3}},
		{"all of MaxVerts vertices", line(), 0, []int{0, 1, 2, 3, 4, 5, 6}, []int{0, 1, 2, 3, 4, 5, 6, 7}, true, []int{0, 1, 2, 3, 4, 5, 6}},
		{"back to src, at once", town(), 0, []int{0, 5}, []int{0, 1, 0}, false, nil},
		{"back to src, round", town(), 2, []int{2, 3, 4, 0, 1}, []int{2, 3, 4, 0, 1, 2}, false, nil},
		{"back to src, and on", town(), 0, []int{0, 5, 9}, []int{0, 1, 0, 4}, false, []int{9}},
		{"back to src twice, and on", town(), 0, []int{9, 4, 0, 5, 10, 1}, []int{0, 4, 0, 1, 0, 1, 2}, false, []int{10, 1}},
		{"a vertex twice, then on", town(), 0, []int{0, 1, 6, 12}, []int{0, 1, 2, 1, 4}, false, []int{0, 12}},
		{"a vertex twice, one loop of three links", town(), 1, []int{1, 2, 3, 8, 7}, []int{1, 2, 3, 4, 3, 2}, false, []int{1}},
		{"a loop that ends at the last link", town(), 0, []int{0, 1, 2, 7}, []int{0, 1, 2, 3, 2}, false, []int{0, 1}},
		{"a loop over three links that ends at the last", town(), 0, []int{10, 12, 4, 11}, []int{0, 1, 4, 0, 1}, false, []int{11}},
		{"a loop within a loop", town(), 0, []int{0, 1, 2, 7, 6, 12}, []int{0, 1, 2, 3, 2, 1, 4}, false, []int{0, 12}},
		{"a loop within a loop within one", town(), 0, []int{0, 1, 2, 3, 8, 7, 6, 5, 9}, []int{0, 1, 2, 3, 4, 3, 2, 1, 0, 4}, false, []int{9}},
		{"two loops within a loop", town(), 0, []int{0, 1, 6, 1, 2, 7, 6, 12, 8}, []int{0, 1, 2, 1, 2, 3, 2, 1, 4, 3}, false, []int{0, 12, 8}},
		{"one loop behind the other", town(), 0, []int{0, 1, 6, 12, 8, 3, 8}, []int{0, 1, 2, 1, 4, 3, 4, 3}, false, []int{0, 12, 8}},
		{"to a vertex that went with a loop", town(), 0, []int{0, 1, 2, 7, 6, 1, 2}, []int{0, 1, 2, 3, 2, 1, 2, 3}, false, []int{0, 1, 2}},
		{"loops that lie across each other", town(), 1, []int{1, 2, 3, 4, 10, 12, 8, 7}, []int{1, 2, 3, 4, 0, 1, 4, 3, 2}, false, []int{12, 8, 7}},
		{"across: the later loop begins in the one that went", town(), 0, []int{0, 1, 2, 7, 2, 3}, []int{0, 1, 2, 3, 2, 3, 4}, false, []int{0, 1, 2, 3}},
		{"the same link twice", town(), 0, []int{0, 5, 0}, []int{0, 1, 0, 1}, false, []int{0}},
		{"the same link twice, round", town(), 3, []int{3, 4, 0, 1, 2, 3}, []int{3, 4, 0, 1, 2, 3, 4}, false, []int{3}},
		{"the same links thrice", town(), 2, []int{2, 7, 2, 7, 2, 7}, []int{2, 3, 2, 3, 2, 3, 2}, false, nil},
		{"the first of several with one From and one To", town(), 0, []int{0, 12}, []int{0, 1, 4}, true, []int{0, 12}},
		{"the second of several with one From and one To", town(), 0, []int{10, 12}, []int{0, 1, 4}, true, []int{10, 12}},
		{"the third of several with one From and one To", town(), 0, []int{11, 12}, []int{0, 1, 4}, true, []int{11, 12}},
		{"there by one, back, there by another", town(), 0, []int{0, 5, 11}, []int{0, 1, 0, 1}, false, []int{11}},
		{"there by one, a loop, not by another", town(), 4, []int{4, 10, 1, 6, 12, 8}, []int{4, 0, 1, 2, 1, 4, 3}, false, []int{8}},
		{"MaxWalk links", pair(), 0, backAndForth(most), append(backAndForth(most), 0), false, nil},
		{"MaxWalk links, the last another one", pair(), 1, append([]int{1}, append(backAndForth(most-2), 2)...), append([]int{1, 0}, append(backAndForth(most - 1)[1:], 1)...), false, nil},
		{"one below MaxWalk links", pair(), 0, backAndForth(most - 1), backAndForth(most), false, []int{0}},
		{"one below MaxWalk links, the last another one", pair(), 0, append(backAndForth(most-2), 2), backAndForth(most), false, []int{2}},
	}
}

// stray is what is no walk, and which of the two errors is due.
type stray struct {
	name string
	g    api.Graph
	src  int
	ls   []int
	err  api.Errno
}

// badGraphs: graphs that may not be, for each of layer 4's reasons.
func badGraphs() []stray {
	const least, most = math.MinInt, math.MaxInt
	strays := []stray{
		{name: "nothing", g: api.Graph{}},
		{name: "one vertex", g: of(1)},
		{name: "below none", g: of(-1)},
		{name: "one vertex, a link", g: of(1, [2]int{0, 1})},
		{name: "one above MaxVerts", g: of(api.MaxVerts + 1)},
		{name: "one above MaxVerts, a link", g: of(api.MaxVerts+1, [2]int{0, 1})},
		{name: "the greatest int of vertices", g: of(most, [2]int{0, 1})},
		{name: "the least int of vertices", g: of(least, [2]int{0, 1})},
		{name: "one link above MaxLinks", g: many(2, api.MaxLinks+1, 0, 1)},
		{name: "a From below 0", g: of(2, [2]int{0, 1}, [2]int{-1, 1})},
		{name: "a From that is Verts", g: of(2, [2]int{0, 1}, [2]int{2, 1})},
		{name: "the greatest int as From", g: of(2, [2]int{0, 1}, [2]int{most, 1})},
		{name: "the least int as From", g: of(2, [2]int{0, 1}, [2]int{least, 1})},
		{name: "a To below 0", g: of(2, [2]int{0, -1})},
		{name: "a To that is Verts", g: of(2, [2]int{0, 2})},
		{name: "the greatest int as To", g: of(2, [2]int{0, most})},
		{name: "the least int as To", g: of(2, [2]int{0, least})},
		{name: "From and To alike, the first", g: of(2, [2]int{0, 0})},
		{name: "From and To alike, the last", g: of(8, [2]int{0, 1}, [2]int{7, 7})},
		{name: "a Cap below 0", g: capped(-1)},
		{name: "a Cap above MaxRate", g: capped(api.MaxRate + 1)},
		{name: "the greatest int as Cap", g: capped(most)},
		{name: "the least int as Cap", g: capped(least)},
		{name: "a Cap below 0, a total of 0", g: capped(1, -1)},
		{name: "one above MaxRate together", g: capped(api.MaxRate, 1)},
		{name: "four times MaxRate together, 0 in an int", g: capped(api.MaxRate, api.MaxRate, api.MaxRate, api.MaxRate)},
	}
	var all []stray
	for _, s := range strays {
		for _, ls := range [][]int{nil, {0}, {0, 0}, {-1}} {
			s.ls, s.err = ls, api.ErrPathForm
			all = append(all, s)
		}
	}
	return all
}

// strays: what is no walk, in each way that the chapter names, and where several are due.
func strays() []stray {
	const form, broken = api.ErrPathForm, api.ErrPathBroken
	long := backAndForth(api.MaxWalk + 1)
	return append(badGraphs(), []stray{
		{"a src below 0", town(), -1, nil, form},
		{"a src that is Verts", town(), 5, nil, form},
		{"a src that is no vertex, a link", town(), 5, []int{0}, form},
		{"the greatest int as src", town(), math.MaxInt, []int{0}, form},
		{"the least int as src", town(), math.MinInt, []int{0}, form},
		{"one link above MaxWalk", pair(), 0, long, form},
		{"twice MaxWalk", pair(), 0, backAndForth(2 * api.MaxWalk), form},
		{"many more than MaxWalk", pair(), 0, backAndForth(100000), form},
		{"above MaxWalk, and broken", pair(), 1, long, form},
		{"above MaxWalk, the last one no link", pair(), 0, append(backAndForth(api.MaxWalk), 3), form},
		{"a link below 0", town(), 0, []int{-1}, form},
		{"a link that is as many as there are", town(), 0, []int{13}, form},
		{"a link of a graph of none", of(2), 0, []int{0}, form},
		{"a link below MaxLinks that is none", town(), 0, []int{api.MaxLinks - 1}, form},
		{"the greatest int as link", town(), 0, []int{0, 1, math.MaxInt}, form},
		{"the least int as link", town(), 0, []int{0, math.MinInt, 1}, form},
		{"no link in the midst", town(), 0, []int{0, 13, 1}, form},
		{"no link behind MaxWalk less one", pair(), 0, append(backAndForth(api.MaxWalk-1), 3), form},
		{"the first one not at src", town(), 0, []int{1}, broken},
		{"the first one ends at src", town(), 0, []int{4}, broken},
		{"the first one not at src, the last vertex", town(), 4, []int{0, 1, 2, 3}, broken},
		{"the second one not where the first ends", town(), 0, []int{0, 2}, broken},
		{"the second one where the first begins", town(), 0, []int{0, 9}, broken},
		{"the same link twice at once", town(), 0, []int{0, 0}, broken},
		{"one beside it at once", town(), 0, []int{0, 10}, broken},
		{"the second one ends where the first ends", town(), 0, []int{0, 6}, broken},
		{"one in the midst left out", town(), 0, []int{0, 1, 3, 4}, broken},
		{"the last one not where the one ahead ends", town(), 0, []int{0, 1, 2, 4}, broken},
		{"at src again, though not there", town(), 0, []int{0, 1, 0}, broken},
		{"the last one of MaxWalk", pair(), 0, append(backAndForth(api.MaxWalk-1), 0), broken},
		{"the first one of MaxWalk", pair(), 1, backAndForth(api.MaxWalk), broken},
		{"broken at once, no link at the end", town(), 0, []int{1, 2, 13}, form},
		{"broken at once, the end below 0", town(), 0, []int{1, 2, -1}, form},
		{"no link at once, broken at the end", town(), 0, []int{-1, 3, 1}, form},
		{"broken ahead of the one that is no link", pair(), 0, append([]int{1}, append(backAndForth(62), 7)...), form},
		{"broken, of a src that is none", town(), -1, []int{0, 2}, form},
		{"broken, of a graph that may not be", of(2, [2]int{0, 1}, [2]int{1, 1}), 0, []int{0, 0}, form},
	}...)
}

// model gives the vertices that a walk comes to, by the words of the chapter.
func model(g api.Graph, src int, ls []int) ([]int, api.Errno) {
	isLink := func(l int) bool { return l >= 0 && l < len(g.Links) }
	if !graph.May(g) || src < 0 || src >= g.Verts || len(ls) > api.MaxWalk {
		return nil, api.ErrPathForm
	}
	if slices.ContainsFunc(ls, func(l int) bool { return !isLink(l) }) {
		return nil, api.ErrPathForm
	}
	froms, tos := []int{}, []int{src}
	for _, l := range ls {
		froms, tos = append(froms, g.Links[l].From), append(tos, g.Links[l].To)
	}
	if !slices.Equal(froms, tos[:len(ls)]) {
		return nil, api.ErrPathBroken
	}
	return tos, api.OK
}

// leftOf gives what is left of a walk without loops in another way than by going through it: at each vertex the link by which it is left for the last time.
func leftOf(vs []int, ls []int) []int {
	var left []int
	for v, end := vs[0], vs[len(ls)]; v != end; {
		last := len(ls)
		for vs[last] != v {
			last--
		}
		left, v = append(left, ls[last]), vs[last+1]
	}
	return left
}

// noneTwice tells whether no number stands twice in vs.
func noneTwice(vs []int) bool {
	seen := map[int]bool{}
	for _, v := range vs {
		seen[v] = true
	}
	return len(seen) == len(vs)
}

// check holds all three calls against the words of the chapter.
func check(t *testing.T, g api.Graph, src int, ls []int) {
	t.Helper()
	vs, wantErr := model(g, src, ls)
	if got, err := path.Walk(g, src, ls); !slices.Equal(got, vs) || err != wantErr {
		t.Errorf("Walk(%v, %d, %v): %v, %d, want %v, %d", g, src, ls, got, err, vs, wantErr)
	}
	for dst := -1; dst <= api.MaxVerts+1; dst++ {
		want := wantErr == api.OK && len(ls) > 0 && vs[len(ls)] == dst && noneTwice(vs)
		if got := path.May(g, src, dst, ls); got != want {
			t.Errorf("May(%v, %d, %d, %v): %t, want %t", g, src, dst, ls, got, want)
		}
	}
	var left []int
	if wantErr == api.OK {
		left = leftOf(vs, ls)
	}
	if got, err := path.Simple(g, src, ls); !slices.Equal(got, left) || err != wantErr {
		t.Errorf("Simple(%v, %d, %v): %v, %d, want %v, %d", g, src, ls, got, err, left, wantErr)
	}
}

// P6.1: Walk.

func TestWalk(t *testing.T) {
	for _, w := range trips() {
		if got, err := path.Walk(w.g, w.src, w.ls); !slices.Equal(got, w.vs) || err != api.OK {
			t.Errorf("%s: Walk(%d, %v): %v, %d, want %v, OK", w.name, w.src, w.ls, got, err, w.vs)
		}
	}
}

func TestWalkOfWhatIsNone(t *testing.T) {
	for _, s := range strays() {
		if got, err := path.Walk(s.g, s.src, s.ls); len(got) != 0 || err != s.err {
			t.Errorf("%s: Walk(%d, %v): %v, %d, want none, %d", s.name, s.src, s.ls, got, err, s.err)
		}
	}
}

func TestWalkBrokenAtEachPlace(t *testing.T) {
	for place := range api.MaxWalk {
		ls := backAndForth(api.MaxWalk)
		ls[place] = 1 - ls[place]
		if got, err := path.Walk(pair(), 0, ls); len(got) != 0 || err != api.ErrPathBroken {
			t.Errorf("broken at %d: %v, %d", place, got, err)
		}
		for _, none := range []int{-1, 3, math.MaxInt, math.MinInt} {
			ls[place] = none
			for _, src := range []int{0, 1} {
				if got, err := path.Walk(pair(), src, ls); len(got) != 0 || err != api.ErrPathForm {
					t.Errorf("from %d, %d at %d: %v, %d", src, none, place, got, err)
				}
			}
		}
	}
}

// P6.1: May.

func TestMay(t *testing.T) {
	for _, w := range trips() {
		for dst := range w.g.Verts {
			want := w.may && dst == w.vs[len(w.ls)]
			if got := path.May(w.g, w.src, dst, w.ls); got != want {
				t.Errorf("%s: May(%d, %d, %v): %t, want %t", w.name, w.src, dst, w.ls, got, want)
			}
		}
	}
}

func TestMayToNoVertex(t *testing.T) {
	for _, w := range trips() {
		for _, dst := range []int{-1, -2, w.g.Verts, w.g.Verts + 1, math.MaxInt, math.MinInt} {
			if path.May(w.g, w.src, dst, w.ls) {
				t.Errorf("%s: May(%d, %d, %v)", w.name, w.src, dst, w.ls)
			}
		}
	}
}

func TestMayOfWhatIsNoWalk(t *testing.T) {
	for _, s := range strays() {
		for _, dst := range edges {
			if path.May(s.g, s.src, dst, s.ls) {
				t.Errorf("%s: May(%d, %d, %v)", s.name, s.src, dst, s.ls)
			}
		}
	}
}

// P6.2: Simple.

func TestSimple(t *testing.T) {
	for _, w := range trips() {
		if got, err := path.Simple(w.g, w.src, w.ls); !slices.Equal(got, w.left) || err != api.OK {
			t.Errorf("%s: Simple(%d, %v): %v, %d, want %v, OK", w.name, w.src, w.ls, got, err, w.left)
		}
	}
}

func TestSimpleOfWhatIsNone(t *testing.T) {
	for _, s := range strays() {
		if got, err := path.Simple(s.g, s.src, s.ls); len(got) != 0 || err != s.err {
			t.Errorf("%s: Simple(%d, %v): %v, %d, want none, %d", s.name, s.src, s.ls, got, err, s.err)
		}
	}
}

func TestWhatIsLeftIsLeftAsItIs(t *testing.T) {
	for _, w := range trips() {
		left, _ := path.Simple(w.g, w.src, w.ls)
		if again, err := path.Simple(w.g, w.src, left); !slices.Equal(again, left) || err != api.OK {
			t.Errorf("%s: Simple(%v): %v, %d", w.name, left, again, err)
		}
		dst := w.vs[len(w.ls)]
		if got, want := path.May(w.g, w.src, dst, left), dst != w.src; got != want {
			t.Errorf("%s: May(%d, %d, %v): %t, want %t", w.name, w.src, dst, left, got, want)
		}
	}
}

// P6.1 and P6.2: against the words of the chapter.

func TestAtAllEdges(t *testing.T) {
	for _, w := range trips() {
		for _, src := range edges {
			check(t, w.g, src, w.ls)
		}
		for _, l := range edges {
			check(t, w.g, w.src, append(slices.Clone(w.ls), l))
			check(t, w.g, w.src, append([]int{l}, w.ls...))
		}
	}
	for _, s := range strays() {
		for _, src := range edges {
			check(t, s.g, src, s.ls)
		}
	}
	for n := range 2 * api.MaxWalk {
		check(t, pair(), 0, backAndForth(n))
		check(t, pair(), 1, backAndForth(n))
		check(t, pair(), 0, append(backAndForth(n), 2))
	}
}

// All lists of up to five links of a graph of three vertices.
func TestAllShortLists(t *testing.T) {
	g := of(3, [2]int{0, 1}, [2]int{1, 0}, [2]int{1, 2}, [2]int{2, 1}, [2]int{2, 0}, [2]int{0, 1})
	lists := [][]int{nil}
	for at := 0; at < len(lists); at++ {
		for src := -1; src <= g.Verts; src++ {
			check(t, g, src, lists[at])
		}
		for l := 0; l <= len(g.Links) && len(lists[at]) < 5; l++ {
			lists = append(lists, append(slices.Clone(lists[at]), l))
		}
	}
}

// All walks of up to eight links from vertex 0 of town.
func TestAllShortWalks(t *testing.T) {
	g := town()
	lists := [][]int{nil}
	for at := 0; at < len(lists); at++ {
		check(t, g, 0, lists[at])
		vs, _ := model(g, 0, lists[at])
		for l, link := range g.Links {
			if link.From == vs[len(vs)-1] && len(lists[at]) < 8 {
				lists = append(lists, append(slices.Clone(lists[at]), l))
			}
		}
	}
}

func TestWhateverWalk(t *testing.T) {
	r := rand.New(rand.NewSource(6))
	for range 20000 {
		g := api.Graph{Verts: 2 + r.Intn(api.MaxVerts-1)}
		for range r.Intn(api.MaxLinks + 1) {
			from := r.Intn(g.Verts)
			g.Links = append(g.Links, api.Link{From: from, To: (from + 1 + r.Intn(g.Verts-1)) % g.Verts, Cap: r.Intn(5)})
		}
		src := r.Intn(g.Verts)
		var ls []int
		for at, n := src, r.Intn(api.MaxWalk+2); len(ls) < n; {
			out, _ := graph.Out(g, at)
			if len(out) == 0 {
				break
			}
			l := out[r.Intn(len(out))]
			ls, at = append(ls, l), g.Links[l].To
		}
		check(t, g, src, ls)
		if len(ls) > 0 {
			ls[r.Intn(len(ls))] = r.Intn(len(g.Links)+2) - 1
			check(t, g, src, ls)
		}
	}
}

// R4: what is handed in is not changed, nor its spare room, nor kept; answers are new memory.

func TestWhatIsHandedInIsNotChanged(t *testing.T) {
	var all []stray
	for _, w := range trips() {
		all = append(all, stray{name: w.name, g: w.g, src: w.src, ls: w.ls})
	}
	for _, s := range append(all, strays()...) {
		spare := api.Link{From: -7, To: -8, Cap: -9}
		room := append(slices.Clone(s.g.Links), spare, spare, spare)
		list := append(slices.Clone(s.ls), -7, -8, -9)
		wasRoom, wasList := slices.Clone(room), slices.Clone(list)
		g, ls := api.Graph{Verts: s.g.Verts, Links: room[:len(s.g.Links)]}, list[:len(s.ls)]
		path.Walk(g, s.src, ls)
		path.Simple(g, s.src, ls)
		for dst := -1; dst <= api.MaxVerts; dst++ {
			path.May(g, s.src, dst, ls)
		}
		if !slices.Equal(room, wasRoom) || !slices.Equal(list, wasList) {
			t.Errorf("%s: changed: %v, %v, was %v, %v", s.name, room, list, wasRoom, wasList)
		}
	}
}

// spoil writes over a list and its spare room.
func spoil(list []int) {
	for i := range list[:cap(list)] {
		list[:cap(list)][i] = -5
	}
}

func TestAnswersAreNewMemory(t *testing.T) {
	for _, w := range trips() {
		ls := slices.Clone(w.ls)
		vs, _ := path.Walk(w.g, w.src, ls)
		left, _ := path.Simple(w.g, w.src, ls)
		otherVs, _ := path.Walk(w.g, w.src, ls)
		otherLeft, _ := path.Simple(w.g, w.src, ls)
		spoil(vs)
		spoil(left)
		if !slices.Equal(ls, w.ls) {
			t.Errorf("%s: the list was %v, is %v", w.name, w.ls, ls)
		}
		moreVs, _ := path.Walk(w.g, w.src, ls)
		if !slices.Equal(otherVs, w.vs) || !slices.Equal(moreVs, w.vs) {
			t.Errorf("%s: Walk: %v, then %v, want %v", w.name, otherVs, moreVs, w.vs)
		}
		moreLeft, _ := path.Simple(w.g, w.src, ls)
		if !slices.Equal(otherLeft, w.left) || !slices.Equal(moreLeft, w.left) {
			t.Errorf("%s: Simple: %v, then %v, want %v", w.name, otherLeft, moreLeft, w.left)
		}
	}
}

func TestWhatIsHandedInIsNotKept(t *testing.T) {
	for _, w := range trips() {
		g, ls := api.Graph{Verts: w.g.Verts, Links: slices.Clone(w.g.Links)}, slices.Clone(w.ls)
		vs, _ := path.Walk(g, w.src, ls)
		left, _ := path.Simple(g, w.src, ls)
		spoil(ls)
		for i := range g.Links {
			g.Links[i] = api.Link{From: 1, To: 0, Cap: 2}
		}
		if !slices.Equal(vs, w.vs) || !slices.Equal(left, w.left) {
			t.Errorf("%s: answers turned: %v, %v, want %v, %v", w.name, vs, left, w.vs, w.left)
		}
		check(t, g, w.src, ls)
		check(t, g, 1, []int{0})
	}
}

// R5: from several goroutines at one time.

func TestFromSeveralGoroutines(t *testing.T) {
	g, ls := town(), []int{0, 1, 2, 7, 6, 12}
	var wg sync.WaitGroup
	for range 8 {
		wg.Go(func() {
			for range 200 {
				vs, err := path.Walk(g, 0, ls)
				left, err2 := path.Simple(g, 0, ls)
				if !slices.Equal(vs, []int{0, 1, 2, 3, 2, 1, 4}) || !slices.Equal(left, []int{0, 12}) || err != api.OK || err2 != api.OK || path.May(g, 0, 4, ls) {
					t.Errorf("Walk %v, Simple %v: %d, %d", vs, left, err, err2)
				}
			}
		})
	}
	wg.Wait()
}
