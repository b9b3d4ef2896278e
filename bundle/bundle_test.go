package bundle_test

import (
	"math"
	"math/big"
	"math/rand"
	"slices"
	"sync"
	"testing"

	"tollbar/api"
	"tollbar/bundle"
	"tollbar/graph"
	"tollbar/path"
)

const most = api.MaxRate

// noRates: numbers that are no rates.
var noRates = []int{math.MinInt, math.MinInt + 1, -most - 1, -most, -2, -1, most + 1, most + 2, math.MaxInt - 1, math.MaxInt}

// of makes a graph of links that are told as From, To, Cap.
func of(verts int, links ...[3]int) api.Graph {
	g := api.Graph{Verts: verts}
	for _, l := range links {
		g.Links = append(g.Links, api.Link{From: l[0], To: l[1], Cap: l[2]})
	}
	return g
}

// many makes a graph of n links from 0 to 1, each with that Cap.
func many(verts int, n int, each int) api.Graph {
	g := api.Graph{Verts: verts}
	for range n {
		g.Links = append(g.Links, api.Link{From: 0, To: 1, Cap: each})
	}
	return g
}

// town: three ways from 0 to 3: 0 1 (0>1>3), 2 3 (0>2>3) and 5 (0>3); 4 goes from 1 to 2, 6 from 3 back to 0, 7 lies beside 0.
func town() api.Graph {
	return of(4, [3]int{0, 1, 5}, [3]int{1, 3, 5}, [3]int{0, 2, 4}, [3]int{2, 3, 4}, [3]int{1, 2, 9}, [3]int{0, 3, 1}, [3]int{3, 0, 0}, [3]int{0, 1, 2})
}

// wide: one link that takes MaxRate, then two that take nothing.
func wide() api.Graph {
	return of(2, [3]int{0, 1, most}, [3]int{1, 0, 0}, [3]int{0, 1, 0})
}

// to makes a path.
func to(rate int, links ...int) api.Path {
	return api.Path{Rate: rate, Links: links}
}

// times gives a list of n times that path.
func times(n int, p api.Path) []api.Path {
	return slices.Repeat([]api.Path{p}, n)
}

// capsOf gives the Caps of the graph.
func capsOf(g api.Graph) []int {
	var caps []int
	for _, l := range g.Links {
		caps = append(caps, l.Cap)
	}
	return caps
}

// badGraphs: graphs that may not be, for each of layer 4's reasons; link 0 of most of them goes from 0 to 1.
func badGraphs() map[string]api.Graph {
	ends := func(from int, to int) api.Graph { return of(2, [3]int{0, 1, 1}, [3]int{from, to, 1}) }
	return map[string]api.Graph{
		"nothing":                             {},
		"no vertices, an empty list":          {Links: []api.Link{}},
		"one vertex":                          of(1),
		"one vertex, a link":                  of(1, [3]int{0, 1, 1}),
		"below none":                          of(-1, [3]int{0, 1, 1}),
		"the least int of vertices":           of(math.MinInt, [3]int{0, 1, 1}),
		"one above MaxVerts":                  of(api.MaxVerts + 1),
		"one above MaxVerts, a link":          of(api.MaxVerts+1, [3]int{0, 1, 1}),
		"the greatest int of vertices":        of(math.MaxInt, [3]int{0, 1, 1}),
		"one link above MaxLinks":             many(2, api.MaxLinks+1, 1),
		"one link above MaxLinks, of 0":       many(api.MaxVerts, api.MaxLinks+1, 0),
		"a From below 0":                      ends(-1, 1),
		"a From that is Verts":                ends(2, 1),
		"the greatest int as From":            ends(math.MaxInt, 1),
		"the least int as From":               ends(math.MinInt, 1),
		"a To below 0":                        ends(0, -1),
		"a To that is Verts":                  ends(0, 2),
		"the greatest int as To":              ends(0, math.MaxInt),
		"the least int as To":                 ends(0, math.MinInt),
		"From and To alike":                   ends(1, 1),
		"From and To alike, the only link":    of(2, [3]int{0, 0, 1}),
		"a Cap below 0":                       many(2, 1, -1),
		"a Cap below 0, a total of 0":         of(2, [3]int{0, 1, 1}, [3]int{0, 1, -1}),
		"the least int as Cap":                many(2, 1, math.MinInt),
		"a Cap above MaxRate":                 many(2, 1, most+1),
		"the greatest int as Cap":             many(2, 1, math.MaxInt),
		"one above MaxRate together":          of(2, [3]int{0, 1, most}, [3]int{0, 1, 1}),
		"four times MaxRate, 0 in an int":     many(2, 4, most),
		"MaxLinks Caps, a bit above together": many(2, api.MaxLinks, most/api.MaxLinks+1),
	}
}

// P7.1: May.

// offer is what May is asked, and what it answers.
type offer struct {
	name string
	g    api.Graph
	src  int
	dst  int
	rate int
	ps   []api.Path
	want bool
}

// ordinary: offers of town and other graphs that are no edge of the numbers.
func ordinary() []offer {
	a, b, c, d := to(3, 0, 1), to(9, 2, 3), to(1, 0, 4, 3), to(2, 5)
	return []offer{
		{"one path", town(), 0, 3, 3, []api.Path{a}, true},
		{"one path of one link", town(), 0, 3, 2, []api.Path{d}, true},
		{"two paths", town(), 0, 3, 12, []api.Path{a, b}, true},
		{"two paths, the other first", town(), 0, 3, 12, []api.Path{b, a}, true},
		{"four paths", town(), 0, 3, 15, []api.Path{a, b, c, d}, true},
		{"the same path twice", town(), 0, 3, 6, []api.Path{a, a}, true},
		{"by links side by side", town(), 0, 3, 7, []api.Path{to(3, 0, 1), to(4, 7, 1)}, true},
		{"from another vertex", town(), 1, 3, 2, []api.Path{to(1, 1), to(1, 4, 3)}, true},
		{"to another vertex", town(), 0, 2, 2, []api.Path{to(1, 2), to(1, 7, 4)}, true},
		{"back", town(), 3, 0, 4, []api.Path{to(4, 6)}, true},
		{"above all Caps", town(), 0, 3, 1000, []api.Path{to(1000, 0, 1)}, true},
		{"over links of Cap 0", many(2, 3, 0), 0, 1, 5, []api.Path{to(5, 2)}, true},
		{"one below", town(), 0, 3, 12, []api.Path{a, to(8, 2, 3)}, false},
		{"one above", town(), 0, 3, 12, []api.Path{a, to(10, 2, 3)}, false},
		{"the rate of the first alone", town(), 0, 3, 3, []api.Path{a, b}, false},
		{"the rate of the last alone", town(), 0, 3, 9, []api.Path{a, b}, false},
		{"src and dst turned round", town(), 3, 0, 3, []api.Path{a}, false},
		{"not from src", town(), 1, 3, 3, []api.Path{a}, false},
		{"not to dst", town(), 0, 2, 3, []api.Path{a}, false},
		{"the first not from src", town(), 0, 3, 12, []api.Path{to(3, 1), b}, false},
		{"the last not to dst", town(), 0, 3, 12, []api.Path{a, to(9, 2)}, false},
		{"beyond dst", town(), 0, 1, 3, []api.Path{a}, false},
		{"broken", town(), 0, 3, 3, []api.Path{to(3, 0, 3)}, false},
		{"the last broken", town(), 0, 3, 4, []api.Path{a, to(1, 0, 5)}, false},
		{"round, and on", town(), 0, 3, 3, []api.Path{to(3, 5, 6, 0, 1)}, false},
		{"round, and on, behind one that is simple", town(), 0, 3, 6, []api.Path{a, to(3, 5, 6, 0, 1)}, false},
		{"round, back to src", town(), 0, 0, 3, []api.Path{to(3, 5, 6)}, false},
		{"a path with no links", town(), 0, 3, 3, []api.Path{to(3)}, false},
		{"a path with no links, src and dst one", town(), 0, 0, 3, []api.Path{to(3)}, false},
		{"an empty list of links", town(), 0, 3, 3, []api.Path{{Rate: 3, Links: []int{}}}, false},
		{"a path with no links behind another", town(), 0, 3, 4, []api.Path{a, to(1)}, false},
		{"a path with no links ahead of another", town(), 0, 3, 4, []api.Path{to(1), a}, false},
		{"no link", town(), 0, 3, 3, []api.Path{to(3, 0, 8)}, false},
		{"a link below 0", town(), 0, 3, 3, []api.Path{to(3, -1, 1)}, false},
		{"no link, of the last", town(), 0, 3, 12, []api.Path{a, to(9, 2, math.MaxInt)}, false},
		{"a src that is no vertex", town(), -1, 3, 3, []api.Path{a}, false},
		{"a src that is Verts", town(), 4, 3, 3, []api.Path{a}, false},
		{"a dst that is no vertex", town(), 0, -1, 3, []api.Path{a}, false},
		{"a dst that is Verts", town(), 0, 4, 3, []api.Path{a}, false},
	}
}

// around: offers at the edges of the numbers.
func around() []offer {
	one, full := to(1, 0, 1), to(most, 0, 1)
	return []offer{
		{"no path at all, a rate of 0", town(), 0, 3, 0, nil, false},
		{"no path at all, a rate of 1", town(), 0, 3, 1, nil, false},
		{"no path at all, an empty list", town(), 0, 3, 0, []api.Path{}, false},
		{"no path at all, a rate below 0", town(), 0, 3, -1, nil, false},
		{"a rate of 1", town(), 0, 3, 1, []api.Path{one}, true},
		{"a rate of 0, a Rate of 0", town(), 0, 3, 0, []api.Path{to(0, 0, 1)}, false},
		{"a rate of 0, a Rate of 1", town(), 0, 3, 0, []api.Path{one}, false},
		{"a rate of 1, a Rate of 0", town(), 0, 3, 1, []api.Path{to(0, 0, 1)}, false},
		{"a Rate of 0 behind another", town(), 0, 3, 1, []api.Path{one, to(0, 2, 3)}, false},
		{"a Rate of 0 ahead of another", town(), 0, 3, 1, []api.Path{to(0, 2, 3), one}, false},
		{"a Rate below 0", town(), 0, 3, -1, []api.Path{to(-1, 0, 1)}, false},
		{"a Rate below 0, 1 together", town(), 0, 3, 1, []api.Path{to(2, 0, 1), to(-1, 0, 1)}, false},
		{"a Rate below 0 first, 1 together", town(), 0, 3, 1, []api.Path{to(-1, 0, 1), to(2, 0, 1)}, false},
		{"the least int", town(), 0, 3, math.MinInt, []api.Path{to(math.MinInt, 0, 1)}, false},
		{"the greatest int", town(), 0, 3, math.MaxInt, []api.Path{to(math.MaxInt, 0, 1)}, false},
		{"the least int twice, 0 in an int", town(), 0, 3, 0, times(2, to(math.MinInt, 0, 1)), false},
		{"MaxRate", town(), 0, 3, most, []api.Path{full}, true},
		{"one below MaxRate", town(), 0, 3, most - 1, []api.Path{to(most-1, 0, 1)}, true},
		{"one above MaxRate", town(), 0, 3, most + 1, []api.Path{to(most+1, 0, 1)}, false},
		{"MaxRate, a Rate of one above", town(), 0, 3, most, []api.Path{to(most+1, 0, 1)}, false},
		{"MaxRate by two", town(), 0, 3, most, []api.Path{to(most-1, 0, 1), to(1, 2, 3)}, true},
		{"MaxRate by halves", town(), 0, 3, most, []api.Path{to(most/2, 0, 1), to(most/2, 2, 3)}, true},
		{"MaxRate by one below it", town(), 0, 3, most, []api.Path{to(most-2, 0, 1), to(1, 2, 3)}, false},
		{"one above MaxRate by two, asked for it", town(), 0, 3, most + 1, []api.Path{full, one}, false},
		{"one above MaxRate by two, asked for MaxRate", town(), 0, 3, most, []api.Path{full, one}, false},
		{"one above MaxRate by two, asked for 0", town(), 0, 3, 0, []api.Path{full, one}, false},
		{"twice MaxRate, below 0 in an int", town(), 0, 3, math.MinInt, []api.Path{full, full}, false},
		{"four times MaxRate, 0 in an int", town(), 0, 3, 0, times(4, full), false},
		{"five times MaxRate, MaxRate in an int", town(), 0, 3, most, times(5, full), false},
		{"one below MaxPaths", town(), 0, 3, api.MaxPaths - 1, times(api.MaxPaths-1, one), true},
		{"MaxPaths", town(), 0, 3, api.MaxPaths, times(api.MaxPaths, one), true},
		{"MaxPaths, MaxRate together", town(), 0, 3, most, times(api.MaxPaths, to(most/api.MaxPaths, 5)), true},
		{"MaxPaths, one below the rate", town(), 0, 3, api.MaxPaths + 1, times(api.MaxPaths, one), false},
		{"MaxPaths, one above the rate", town(), 0, 3, api.MaxPaths - 1, times(api.MaxPaths, one), false},
		{"MaxPaths, the last with a Rate of 0", town(), 0, 3, api.MaxPaths - 1, append(times(api.MaxPaths-1, one), to(0, 0, 1)), false},
		{"MaxPaths, the last not to dst", town(), 0, 3, api.MaxPaths, append(times(api.MaxPaths-1, one), to(1, 0)), false},
		{"one above MaxPaths", town(), 0, 3, api.MaxPaths + 1, times(api.MaxPaths+1, one), false},
		{"one above MaxPaths, asked for the first MaxPaths", town(), 0, 3, api.MaxPaths, times(api.MaxPaths+1, one), false},
		{"very many", town(), 0, 3, 100000, times(100000, one), false},
		{"as many links as a path may have", long(), 0, 7, 2, []api.Path{to(2, 0, 1, 2, 3, 4, 5, 6)}, true},
		{"MaxWalk links", rounds(), 0, 1, 2, []api.Path{to(2, backAndForth(api.MaxWalk-1)...)}, false},
		{"MaxWalk links, back to src", rounds(), 0, 0, 2, []api.Path{to(2, backAndForth(api.MaxWalk)...)}, false},
		{"one above MaxWalk", rounds(), 0, 1, 2, []api.Path{to(2, backAndForth(api.MaxWalk+1)...)}, false},
		{"one link of the last of many", many(api.MaxVerts, api.MaxLinks, 1), 0, 1, 3, []api.Path{to(1, 0), to(2, api.MaxLinks-1)}, true},
		{"a link of a graph of none", of(2), 0, 1, 1, []api.Path{to(1, 0)}, false},
	}
}

// long: link i goes from vertex i to the next one.
func long() api.Graph {
	g := api.Graph{Verts: api.MaxVerts}
	for v := range api.MaxVerts - 1 {
		g.Links = append(g.Links, api.Link{From: v, To: v + 1, Cap: v})
	}
	return g
}

// rounds: there and back.
func rounds() api.Graph {
	return of(2, [3]int{0, 1, 100}, [3]int{1, 0, 100})
}

// backAndForth: n links of rounds.
func backAndForth(n int) []int {
	var ls []int
	for i := range n {
		ls = append(ls, i%2)
	}
	return ls
}

func TestMay(t *testing.T) {
	for _, o := range append(ordinary(), around()...) {
		if got := bundle.May(o.g, o.src, o.dst, o.rate, o.ps...); got != o.want {
			t.Errorf("%s: May(%d, %d, %d, %v): %t", o.name, o.src, o.dst, o.rate, o.ps, got)
		}
	}
}

func TestMayOfBadGraphs(t *testing.T) {
	for name, g := range badGraphs() {
		for _, ps := range [][]api.Path{nil, {to(1, 0)}, {to(1)}, {to(1, 0, 1)}} {
			for _, rate := range []int{0, 1} {
				if bundle.May(g, 0, 1, rate, ps...) || bundle.May(g, 0, 0, rate, ps...) {
					t.Errorf("%s: May(%d, %v)", name, rate, ps)
				}
			}
		}
	}
}

func TestMayOfOnlyThatRate(t *testing.T) {
	edges := append([]int{0, 1, 2, 11, 12, 13, most/2 - 1, most / 2, most - 1, most}, noRates...)
	for _, o := range append(ordinary(), around()...) {
		for _, rate := range append(edges, o.rate-1, o.rate+1) {
			if o.want && rate != o.rate && bundle.May(o.g, o.src, o.dst, rate, o.ps...) {
				t.Errorf("%s: May(%d, %d, %d, %v)", o.name, o.src, o.dst, rate, o.ps)
			}
		}
	}
}

func TestMayOfNoRates(t *testing.T) {
	for _, no := range noRates {
		for _, ps := range [][]api.Path{{to(no, 5)}, {to(1, 0, 1), to(no, 5)}, {to(no, 5), to(1, 0, 1)}, {to(no, 5), to(no, 5)}} {
			sum := 0
			for _, p := range ps {
				sum += p.Rate
			}
			for _, rate := range []int{no, sum, 0, 1, most} {
				if bundle.May(town(), 0, 3, rate, ps...) {
					t.Errorf("May(%d, %v)", rate, ps)
				}
			}
		}
	}
}

// P7.2: Loads and Fits.

// charge is what Loads is asked, and what it answers.
type charge struct {
	name string
	g    api.Graph
	ps   []api.Path
	want []int
	err  api.Errno
}

// sound: paths of which there are loads.
func sound() []charge {
	none := make([]int, 8)
	full := slices.Repeat([]int{0}, api.MaxWalk)
	return []charge{
		{"no path at all", town(), nil, none, api.OK},
		{"an empty list", town(), []api.Path{}, none, api.OK},
		{"no path, no link", of(2), nil, nil, api.OK},
		{"a path with no links, no link", of(2), []api.Path{to(3), {Rate: most, Links: []int{}}}, nil, api.OK},
		{"a path with no links", town(), []api.Path{to(3)}, none, api.OK},
		{"a path with no links behind another", town(), []api.Path{to(3, 5), to(most)}, []int{0, 0, 0, 0, 0, 3, 0, 0}, api.OK},
		{"one path", town(), []api.Path{to(3, 0, 1)}, []int{3, 3, 0, 0, 0, 0, 0, 0}, api.OK},
		{"paths over unlike links", town(), []api.Path{to(3, 0, 1), to(4, 2, 3), to(1, 5)}, []int{3, 3, 4, 4, 0, 1, 0, 0}, api.OK},
		{"a link in two paths", town(), []api.Path{to(3, 0, 1), to(2, 0, 4, 3)}, []int{5, 3, 0, 2, 2, 0, 0, 0}, api.OK},
		{"a link in all of three paths", town(), []api.Path{to(1, 7), to(2, 7, 1), to(4, 7, 4)}, []int{0, 2, 0, 0, 4, 0, 0, 7}, api.OK},
		{"a link twice in a path", town(), []api.Path{to(3, 4, 4, 1)}, []int{0, 3, 0, 0, 6, 0, 0, 0}, api.OK},
		{"a link twice in a path, one between", town(), []api.Path{to(3, 4, 1, 4)}, []int{0, 3, 0, 0, 6, 0, 0, 0}, api.OK},
		{"a link twice in a path and once in another", town(), []api.Path{to(3, 4, 1, 4), to(2, 4)}, []int{0, 3, 0, 0, 8, 0, 0, 0}, api.OK},
		{"links side by side", town(), []api.Path{to(3, 0), to(2, 7)}, []int{3, 0, 0, 0, 0, 0, 0, 2}, api.OK},
		{"no way: broken", town(), []api.Path{to(3, 3, 0, 6)}, []int{3, 0, 0, 3, 0, 0, 3, 0}, api.OK},
		{"no way: from another vertex than 0", town(), []api.Path{to(3, 1), to(1, 6)}, []int{0, 3, 0, 0, 0, 0, 1, 0}, api.OK},
		{"all links, the last first", town(), []api.Path{to(2, 7, 6, 5, 4, 3, 2, 1, 0)}, []int{2, 2, 2, 2, 2, 2, 2, 2}, api.OK},
		{"the last of MaxLinks", many(2, api.MaxLinks, 1), []api.Path{to(9, api.MaxLinks-1)}, append(make([]int, api.MaxLinks-1), 9), api.OK},
		{"a Rate of 0", town(), []api.Path{to(0, 0, 1)}, none, api.OK},
		{"a Rate of 0, and of 1", town(), []api.Path{to(0, 0, 1), to(1, 1)}, []int{0, 1, 0, 0, 0, 0, 0, 0}, api.OK},
		{"MaxRate", wide(), []api.Path{to(most, 0)}, []int{most, 0, 0}, api.OK},
		{"MaxRate over each link", wide(), []api.Path{to(most, 0, 1, 2)}, []int{most, most, most}, api.OK},
		{"MaxRate over each link, by three paths", wide(), []api.Path{to(most, 2), to(most, 1), to(most, 0)}, []int{most, most, most}, api.OK},
		{"MaxRate, and 0", wide(), []api.Path{to(most, 1), to(0, 1, 1)}, []int{0, most, 0}, api.OK},
		{"MaxRate by halves in one path", wide(), []api.Path{to(most/2, 2, 2)}, []int{0, 0, most}, api.OK},
		{"MaxRate by two paths", wide(), []api.Path{to(most-1, 2), to(1, 2)}, []int{0, 0, most}, api.OK},
		{"one below MaxRate by two paths", wide(), []api.Path{to(most-2, 2), to(1, 2)}, []int{0, 0, most - 1}, api.OK},
		{"MaxRate by MaxWalk", wide(), []api.Path{to(most/api.MaxWalk, full...)}, []int{most, 0, 0}, api.OK},
		{"MaxRate by MaxPaths of MaxWalk", wide(), times(api.MaxPaths, to(most/api.MaxWalk/api.MaxPaths, full...)), []int{most, 0, 0}, api.OK},
		{"MaxWalk links", rounds(), []api.Path{to(2, backAndForth(api.MaxWalk)...)}, []int{api.MaxWalk, api.MaxWalk}, api.OK},
		{"MaxWalk links, twice", rounds(), times(2, to(1, backAndForth(api.MaxWalk)...)), []int{api.MaxWalk, api.MaxWalk}, api.OK},
		{"one below MaxPaths", town(), times(api.MaxPaths-1, to(1, 5)), []int{0, 0, 0, 0, 0, api.MaxPaths - 1, 0, 0}, api.OK},
		{"MaxPaths", town(), times(api.MaxPaths, to(1, 5)), []int{0, 0, 0, 0, 0, api.MaxPaths, 0, 0}, api.OK},
		{"MaxPaths of nothing", town(), make([]api.Path, api.MaxPaths), none, api.OK},
	}
}

// unsound: paths of which there are none, and which of the two errors is due.
func unsound() []charge {
	const form, over = api.ErrBundleForm, api.ErrBundleOver
	tooLong := backAndForth(api.MaxWalk + 1)
	return []charge{
		{"one above MaxPaths", town(), times(api.MaxPaths+1, to(1, 5)), nil, form},
		{"one above MaxPaths, of nothing", town(), make([]api.Path, api.MaxPaths+1), nil, form},
		{"one above MaxPaths, no link", of(2), make([]api.Path, api.MaxPaths+1), nil, form},
		{"very many", town(), make([]api.Path, 100000), nil, form},
		{"one above MaxWalk", rounds(), []api.Path{to(1, tooLong...)}, nil, form},
		{"one above MaxWalk, a Rate of 0", rounds(), []api.Path{to(0, tooLong...)}, nil, form},
		{"one above MaxWalk, the last path", rounds(), []api.Path{to(1, 0), to(1, tooLong...)}, nil, form},
		{"very many links", rounds(), []api.Path{to(1, make([]int, 100000)...)}, nil, form},
		{"no link", town(), []api.Path{to(1, 8)}, nil, form},
		{"no link, below MaxLinks", town(), []api.Path{to(1, api.MaxLinks-1)}, nil, form},
		{"no link of a graph of none", of(2), []api.Path{to(1, 0)}, nil, form},
		{"no link, below 0", town(), []api.Path{to(1, -1)}, nil, form},
		{"no link, the greatest int", town(), []api.Path{to(1, math.MaxInt)}, nil, form},
		{"no link, the least int", town(), []api.Path{to(1, math.MinInt)}, nil, form},
		{"no link, a Rate of 0", town(), []api.Path{to(0, 8)}, nil, form},
		{"no link at the end", town(), []api.Path{to(1, 0, 1, 8)}, nil, form},
		{"no link behind a break", town(), []api.Path{to(1, 3, 3, 8)}, nil, form},
		{"no link ahead", town(), []api.Path{to(1, -1, 0, 1)}, nil, form},
		{"no link, the last of MaxPaths", town(), append(times(api.MaxPaths-1, to(1, 0)), to(1, 0, 8)), nil, form},
		{"no link, the last of MaxWalk", rounds(), []api.Path{to(1, append(backAndForth(api.MaxWalk-1), 2)...)}, nil, form},
		{"one above MaxRate by two paths", wide(), []api.Path{to(most, 1), to(1, 1)}, nil, over},
		{"one above MaxRate by two paths, the greater last", wide(), []api.Path{to(1, 2), to(most, 2)}, nil, over},
		{"one above MaxRate by halves", wide(), []api.Path{to(most/2, 0), to(most/2+1, 0)}, nil, over},
		{"one above MaxRate by three", wide(), []api.Path{to(most/2, 0, 0), to(1, 0)}, nil, over},
		{"MaxRate twice in one path", wide(), []api.Path{to(most, 0, 0)}, nil, over},
		{"MaxRate twice in one path, others between", wide(), []api.Path{to(most, 0, 1, 2, 0)}, nil, over},
		{"MaxRate four times, 0 in an int", wide(), []api.Path{to(most, 0, 0, 0, 0)}, nil, over},
		{"MaxRate five times, MaxRate in an int", wide(), []api.Path{to(most, 0, 0, 0, 0, 0)}, nil, over},
		{"MaxRate by four paths", wide(), times(4, to(most, 2)), nil, over},
		{"all that may be asked", wide(), times(api.MaxPaths, to(most, make([]int, api.MaxWalk)...)), nil, over},
		{"a bit above MaxRate by MaxWalk", wide(), []api.Path{to(most/api.MaxWalk+1, make([]int, api.MaxWalk)...)}, nil, over},
		{"one above MaxRate at the last path", wide(), append(times(api.MaxPaths-1, to(0, 0)), to(most, 1, 0, 1)), nil, over},
		{"over, then no link", wide(), []api.Path{to(most, 0, 0, 3)}, nil, form},
		{"over, then a path with no link", wide(), []api.Path{to(most, 0, 0), to(0, -1)}, nil, form},
		{"a path with no link, then over", wide(), []api.Path{to(0, -1), to(most, 0, 0)}, nil, form},
		{"over, then a Rate below 0", wide(), []api.Path{to(most, 0, 0), to(-1)}, nil, form},
		{"over, then a Rate above MaxRate", wide(), []api.Path{to(most, 0, 0), to(most + 1)}, nil, form},
		{"over, and one above MaxPaths", wide(), times(api.MaxPaths+1, to(most, 0)), nil, form},
		{"over, and one above MaxWalk", wide(), []api.Path{to(most, make([]int, api.MaxWalk+1)...)}, nil, form},
		{"over, then one above MaxWalk", wide(), []api.Path{to(most, 0, 0), to(0, make([]int, api.MaxWalk+1)...)}, nil, form},
	}
}

func TestLoads(t *testing.T) {
	for _, c := range append(sound(), unsound()...) {
		if got, err := bundle.Loads(c.g, c.ps...); !slices.Equal(got, c.want) || err != c.err {
			t.Errorf("%s: Loads(%v): %v, %d, want %v, %d", c.name, c.ps, got, err, c.want, c.err)
		}
	}
}

func TestFitsOfTheGraphsCaps(t *testing.T) {
	for _, c := range append(sound(), unsound()...) {
		want := c.err == api.OK
		for i, load := range c.want {
			want = want && load <= c.g.Links[i].Cap
		}
		if got, err := bundle.Fits(c.g, capsOf(c.g), c.ps...); got != want || err != c.err {
			t.Errorf("%s: Fits(%v): %t, %d, want %t, %d", c.name, c.ps, got, err, want, c.err)
		}
	}
}

func TestBadGraphs(t *testing.T) {
	over := wide()
	over.Links = append(over.Links, api.Link{From: 0, To: 0})
	graphs := badGraphs()
	graphs["over, too"] = over
	for name, g := range graphs {
		for _, ps := range [][]api.Path{nil, {to(1)}, {to(1, 0)}, {to(most, 0, 0)}, {to(-1, -1)}} {
			if got, err := bundle.Loads(g, ps...); len(got) != 0 || err != api.ErrBundleForm {
				t.Errorf("%s: Loads(%v): %v, %d", name, ps, got, err)
			}
			for _, caps := range [][]int{nil, {}, {0}, capsOf(g), make([]int, len(g.Links))} {
				if got, err := bundle.Fits(g, caps, ps...); got || err != api.ErrBundleForm {
					t.Errorf("%s: Fits(%v, %v): %t, %d", name, caps, ps, got, err)
				}
			}
		}
	}
}

func TestNoRates(t *testing.T) {
	for _, no := range noRates {
		for _, ps := range [][]api.Path{{to(no)}, {to(no, 5)}, {to(1, 0), to(no, 5)}, {to(no, 5), to(1, 0)}, {to(2, 5), to(no, 5)}, {to(no, 5, 5)}, append(times(api.MaxPaths-1, to(1, 5)), to(no))} {
			if got, err := bundle.Loads(town(), ps...); len(got) != 0 || err != api.ErrBundleForm {
				t.Errorf("Loads(%v): %v, %d", ps, got, err)
			}
			if got, err := bundle.Fits(town(), capsOf(town()), ps...); got || err != api.ErrBundleForm {
				t.Errorf("Fits(%v): %t, %d", ps, got, err)
			}
		}
	}
}

func TestFits(t *testing.T) {
	caps, small := []int{5, 5, 4, 4, 9, 1, 0, 2}, []int{3, 2, 4, 4, 9, 1, 0, 0}
	for _, c := range []struct {
		name string
		g    api.Graph
		caps []int
		ps   []api.Path
		want bool
	}{
		{"no path at all", town(), caps, nil, true},
		{"no path at all, caps of 0", town(), make([]int, 8), nil, true},
		{"no link at all", of(2), nil, nil, true},
		{"no link at all, empty caps", of(2), []int{}, []api.Path{to(most)}, true},
		{"a path with no links, caps of 0", town(), make([]int, 8), []api.Path{to(7)}, true},
		{"below all caps", town(), caps, []api.Path{to(3, 0, 1), to(1, 0, 4, 3)}, true},
		{"just at a cap", town(), caps, []api.Path{to(5, 0, 1)}, true},
		{"one above a cap", town(), caps, []api.Path{to(6, 0, 4)}, false},
		{"just at all caps", town(), caps, []api.Path{to(3, 0, 1), to(2, 0), to(2, 7, 1), to(4, 2, 3), to(1, 5), to(9, 4)}, true},
		{"one above a cap, by two paths", town(), caps, []api.Path{to(3, 2), to(2, 2, 3)}, false},
		{"one above only together", town(), caps, []api.Path{to(3, 0, 1), to(3, 7, 1)}, false},
		{"just at a cap, twice in a path", town(), caps, []api.Path{to(2, 3, 3)}, true},
		{"one above a cap, twice in a path", town(), caps, []api.Path{to(5, 4, 4)}, false},
		{"one above the first cap", town(), caps, []api.Path{to(6, 0)}, false},
		{"one above the last cap", town(), caps, []api.Path{to(3, 7)}, false},
		{"one above a cap of 0", town(), caps, []api.Path{to(1, 6)}, false},
		{"just at a cap of 0", town(), caps, []api.Path{to(0, 6, 6)}, true},
		{"just at a cap below its link's Cap", town(), small, []api.Path{to(2, 0, 1), to(1, 0, 4)}, true},
		{"above a cap, at its link's Cap", town(), small, []api.Path{to(5, 1)}, false},
		{"one above a cap, below its link's Cap", town(), small, []api.Path{to(3, 1)}, false},
		{"one above a cap of 0, below its link's Cap", town(), small, []api.Path{to(1, 7)}, false},
		{"just at MaxRate", wide(), []int{most, 0, 0}, []api.Path{to(most-1, 0), to(1, 0)}, true},
		{"one below MaxRate as cap", wide(), []int{most - 1, 0, 0}, []api.Path{to(most-1, 0), to(1, 0)}, false},
		{"MaxRate, a cap of 0", wide(), []int{0, 0, 0}, []api.Path{to(most, 0)}, false},
		{"MaxRate on another link", wide(), []int{most, 0, 0}, []api.Path{to(most, 1)}, false},
	} {
		if got, err := bundle.Fits(c.g, c.caps, c.ps...); got != c.want || err != api.OK {
			t.Errorf("%s: Fits(%v, %v): %t, %d, want %t, OK", c.name, c.caps, c.ps, got, err, c.want)
		}
	}
}

// Each link by itself: a load at its cap fits, one above does not, whatever its link's Cap.
func TestFitsAtEachCap(t *testing.T) {
	g := many(2, api.MaxLinks, 9)
	for l := range api.MaxLinks {
		for c := range 10 {
			caps := capsOf(g)
			caps[l] = c
			for load := range 12 {
				if got, err := bundle.Fits(g, caps, to(load, l)); got != (load <= c) || err != api.OK {
					t.Errorf("link %d, cap %d, load %d: %t, %d", l, c, load, got, err)
				}
			}
		}
	}
}

// noCaps: what are no caps of the graph.
func noCaps(g api.Graph) [][]int {
	all := [][]int{append(capsOf(g), 0), append(capsOf(g), -1), make([]int, len(g.Links)+1), make([]int, 1000)}
	if len(g.Links) == 0 {
		return all
	}
	all = append(all, nil, []int{}, capsOf(g)[1:], make([]int, len(g.Links)-1))
	for i, l := range g.Links {
		for _, no := range []int{-1, math.MinInt, -most, l.Cap + 1, most + 1, math.MaxInt} {
			caps := capsOf(g)
			caps[i] = no
			all = append(all, caps)
		}
	}
	return all
}

func TestCapsThatAreNone(t *testing.T) {
	for _, c := range append(sound(), unsound()...) {
		for _, caps := range noCaps(c.g) {
			if got, err := bundle.Fits(c.g, caps, c.ps...); got || err != api.ErrBundleForm {
				t.Errorf("%s: Fits(%v, %v): %t, %d", c.name, caps, c.ps, got, err)
			}
		}
	}
}

// P7.1 and P7.2: against the words of the chapter.

// isSound: is there nothing for which Loads answers ErrBundleForm?
func isSound(g api.Graph, ps []api.Path) bool {
	if !graph.May(g) || len(ps) > api.MaxPaths {
		return false
	}
	for _, p := range ps {
		if p.Rate < 0 || p.Rate > most || len(p.Links) > api.MaxWalk {
			return false
		}
		if slices.ContainsFunc(p.Links, func(l int) bool { return l < 0 || l >= len(g.Links) }) {
			return false
		}
	}
	return true
}

// loadsOf gives the loads, link by link, by numbers without bounds.
func loadsOf(g api.Graph, ps []api.Path) ([]int, api.Errno) {
	if !isSound(g, ps) {
		return nil, api.ErrBundleForm
	}
	var loads []int
	for i := range g.Links {
		load := new(big.Int)
		for _, p := range ps {
			often := 0
			for _, l := range p.Links {
				if l == i {
					often++
				}
			}
			load.Add(load, new(big.Int).Mul(big.NewInt(int64(often)), big.NewInt(int64(p.Rate))))
		}
		if load.Cmp(big.NewInt(most)) > 0 {
			return nil, api.ErrBundleOver
		}
		loads = append(loads, int(load.Int64()))
	}
	return loads, api.OK
}

// fits says what Fits must.
func fits(g api.Graph, caps []int, ps []api.Path) (bool, api.Errno) {
	loads, err := loadsOf(g, ps)
	if err == api.ErrBundleForm || len(caps) != len(g.Links) {
		return false, api.ErrBundleForm
	}
	for i, l := range g.Links {
		if caps[i] < 0 || caps[i] > l.Cap {
			return false, api.ErrBundleForm
		}
	}
	for i, load := range loads {
		if load > caps[i] {
			return false, api.OK
		}
	}
	return err == api.OK, err
}

// may says what May must, by numbers without bounds.
func may(g api.Graph, src int, dst int, rate int, ps []api.Path) bool {
	sum := new(big.Int)
	for _, p := range ps {
		if p.Rate <= 0 || !path.May(g, src, dst, p.Links) {
			return false
		}
		sum.Add(sum, big.NewInt(int64(p.Rate)))
	}
	return graph.May(g) && rate > 0 && rate <= most && len(ps) >= 1 && len(ps) <= api.MaxPaths && sum.Cmp(big.NewInt(int64(rate))) == 0
}

// check holds all three calls against the words of the chapter.
func check(t *testing.T, g api.Graph, caps []int, src int, dst int, rate int, ps []api.Path) bool {
	t.Helper()
	wantMay := may(g, src, dst, rate, ps)
	if got := bundle.May(g, src, dst, rate, ps...); got != wantMay {
		t.Errorf("May(%v, %d, %d, %d, %v): %t, want %t", g, src, dst, rate, ps, got, wantMay)
	}
	want, wantErr := loadsOf(g, ps)
	if got, err := bundle.Loads(g, ps...); !slices.Equal(got, want) || err != wantErr {
		t.Errorf("Loads(%v, %v): %v, %d, want %v, %d", g, ps, got, err, want, wantErr)
	}
	wantFits, wantErr := fits(g, caps, ps)
	if got, err := bundle.Fits(g, caps, ps...); got != wantFits || err != wantErr {
		t.Errorf("Fits(%v, %v, %v): %t, %d, want %t, %d", g, caps, ps, got, err, wantFits, wantErr)
	}
	return wantMay
}

func TestAgainstTheWords(t *testing.T) {
	for _, c := range append(sound(), unsound()...) {
		for _, caps := range append(noCaps(c.g), capsOf(c.g), make([]int, len(c.g.Links))) {
			check(t, c.g, caps, 0, 1, 1, c.ps)
		}
	}
	for _, o := range append(ordinary(), around()...) {
		check(t, o.g, capsOf(o.g), o.src, o.dst, o.rate, o.ps)
		for src := -1; src <= o.g.Verts; src++ {
			for dst := -1; dst <= o.g.Verts; dst++ {
				check(t, o.g, capsOf(o.g), src, dst, o.rate, o.ps)
			}
		}
	}
	for _, g := range badGraphs() {
		check(t, g, capsOf(g), 0, 1, 1, []api.Path{to(1, 0)})
	}
}

// All lists of up to three paths of these Rates over one link, so that the Rates together and the link's load turn at the same place.
func TestRatesAtAllEdges(t *testing.T) {
	rates := append([]int{0, 1, 2, most/2 - 1, most / 2, most/2 + 1, most - 1, most}, noRates...)
	lists := [][]api.Path{nil}
	for at := 0; at < len(lists); at++ {
		ps := lists[at]
		sum := 0
		for _, p := range ps {
			sum += p.Rate
		}
		for _, rate := range []int{0, 1, sum, sum - 1, sum + 1, most, most + 1} {
			check(t, wide(), capsOf(wide()), 0, 1, rate, ps)
		}
		for i := 0; i < len(rates) && len(ps) < 3; i++ {
			lists = append(lists, append(slices.Clone(ps), to(rates[i], 0)))
		}
	}
}

// someGraph makes a graph by chance, its Caps below size.
func someGraph(r *rand.Rand, size int) api.Graph {
	g := api.Graph{Verts: 2 + r.Intn(api.MaxVerts-1)}
	for range r.Intn(api.MaxLinks + 1) {
		from := r.Intn(g.Verts)
		g.Links = append(g.Links, api.Link{From: from, To: (from + 1 + r.Intn(g.Verts-1)) % g.Verts, Cap: r.Intn(size)})
	}
	return g
}

// somePath makes a path by chance: mostly a walk without loops, to dst where it comes there, else links without order.
func somePath(r *rand.Rand, g api.Graph, src int, dst int, size int) api.Path {
	p := api.Path{Rate: r.Intn(size)}
	if r.Intn(8) == 0 {
		for range r.Intn(api.MaxWalk + 3) {
			l := r.Intn(max(1, len(g.Links)))
			if r.Intn(100) == 0 {
				l = []int{-1, len(g.Links)}[r.Intn(2)]
			}
			p.Links = append(p.Links, l)
		}
		return p
	}
	for at := src; at != dst && len(p.Links) < 2*api.MaxVerts; {
		out, _ := graph.Out(g, at)
		if len(out) == 0 {
			break
		}
		l := out[r.Intn(len(out))]
		p.Links, at = append(p.Links, l), g.Links[l].To
	}
	if left, err := path.Simple(g, src, p.Links); err == api.OK && r.Intn(8) > 0 {
		p.Links = left
	}
	return p
}

func TestWhateverPaths(t *testing.T) {
	r := rand.New(rand.NewSource(7))
	may := 0
	for range 20000 {
		size := []int{2, 6, 1000, most / api.MaxLinks}[r.Intn(4)]
		g := someGraph(r, size)
		var caps []int
		for _, l := range g.Links {
			less := 0
			if r.Intn(20) == 0 {
				less = r.Intn(l.Cap + 1)
			}
			caps = append(caps, l.Cap-less)
		}
		src, dst := r.Intn(g.Verts), r.Intn(g.Verts)
		var ps []api.Path
		sum := 0
		for range r.Intn([]int{2, 3, api.MaxPaths + 3}[r.Intn(3)]) {
			p := somePath(r, g, src, dst, size)
			ps, sum = append(ps, p), sum+p.Rate
		}
		for _, rate := range []int{sum, sum + 1, sum - 1, r.Intn(size)} {
			if check(t, g, caps, src, dst, rate, ps) {
				may++
			}
		}
	}
	if may < 1000 {
		t.Errorf("only %d of all may be", may)
	}
}

// R4: what is handed in is not changed, nor its spare room, nor kept; answers are new memory.

// roomy gives a list with spare room that holds that value, and the whole of it.
func roomy[T any](list []T, spare T) ([]T, []T) {
	whole := append(slices.Clone(list), spare, spare, spare)
	return whole[:len(list)], whole
}

// samePaths tells whether the paths have like Rates and like Links.
func samePaths(as []api.Path, bs []api.Path) bool {
	return slices.EqualFunc(as, bs, func(a api.Path, b api.Path) bool {
		return a.Rate == b.Rate && slices.Equal(a.Links, b.Links)
	})
}

func TestWhatIsHandedInIsNotChanged(t *testing.T) {
	all := append(sound(), unsound()...)
	for _, o := range append(ordinary(), around()...) {
		all = append(all, charge{name: o.name, g: o.g, ps: o.ps})
	}
	for name, g := range badGraphs() {
		all = append(all, charge{name: name, g: g, ps: []api.Path{to(1, 0)}})
	}
	for _, c := range all {
		links, wholeLinks := roomy(c.g.Links, api.Link{From: -7, To: -8, Cap: -9})
		caps, wholeCaps := roomy(capsOf(c.g), -7)
		ps, wholePaths := roomy(c.ps, to(-7, -8))
		var lists [][]int
		for i := range ps {
			list, whole := roomy(ps[i].Links, -7)
			ps[i].Links, lists = list, append(lists, whole)
		}
		wasLinks, wasCaps, wasPaths := slices.Clone(wholeLinks), slices.Clone(wholeCaps), slices.Clone(wholePaths)
		var wasLists [][]int
		for _, list := range lists {
			wasLists = append(wasLists, slices.Clone(list))
		}
		g := api.Graph{Verts: c.g.Verts, Links: links}
		bundle.Loads(g, ps...)
		bundle.Fits(g, caps, ps...)
		for dst := range 4 {
			bundle.May(g, 0, dst, 3, ps...)
		}
		if !slices.Equal(wholeLinks, wasLinks) || !slices.Equal(wholeCaps, wasCaps) || !samePaths(wholePaths, wasPaths) || !slices.EqualFunc(lists, wasLists, slices.Equal[[]int]) {
			t.Errorf("%s: changed: %v, %v, %v, %v", c.name, wholeLinks, wholeCaps, wholePaths, lists)
		}
	}
}

// spoil writes over a list and its spare room.
func spoil(list []int) {
	for i := range list[:cap(list)] {
		list[:cap(list)][i] = -5
	}
}

func TestAnswersAreNewMemory(t *testing.T) {
	for _, c := range sound() {
		loads, _ := bundle.Loads(c.g, c.ps...)
		other, _ := bundle.Loads(c.g, c.ps...)
		spoil(loads)
		more, err := bundle.Loads(c.g, c.ps...)
		if !slices.Equal(other, c.want) || !slices.Equal(more, c.want) || err != api.OK {
			t.Errorf("%s: %v, then %v, want %v", c.name, other, more, c.want)
		}
	}
}

func TestWhatIsHandedInIsNotKept(t *testing.T) {
	for _, c := range sound() {
		g := api.Graph{Verts: c.g.Verts, Links: slices.Clone(c.g.Links)}
		ps := slices.Clone(c.ps)
		for i := range ps {
			ps[i].Links = slices.Clone(ps[i].Links)
		}
		loads, _ := bundle.Loads(g, ps...)
		for i := range g.Links {
			g.Links[i] = api.Link{From: 1, To: 0, Cap: 2}
		}
		for i := range ps {
			spoil(ps[i].Links)
			ps[i] = to(1)
		}
		if !slices.Equal(loads, c.want) {
			t.Errorf("%s: the answer turned: %v, want %v", c.name, loads, c.want)
		}
		check(t, g, capsOf(g), 0, 1, 1, ps)
		check(t, c.g, capsOf(c.g), 0, 1, 1, c.ps)
	}
}

// R5: from several goroutines at one time.

func TestFromSeveralGoroutines(t *testing.T) {
	g, caps, ps := town(), capsOf(town()), []api.Path{to(3, 0, 1), to(2, 0, 4, 3), to(1, 5)}
	want := []int{5, 3, 0, 2, 2, 1, 0, 0}
	var all sync.WaitGroup
	for range 8 {
		all.Go(func() {
			for range 200 {
				loads, err := bundle.Loads(g, ps...)
				ok, err2 := bundle.Fits(g, caps, ps...)
				if !slices.Equal(loads, want) || !ok || err != api.OK || err2 != api.OK || !bundle.May(g, 0, 3, 6, ps...) {
					t.Errorf("Loads %v, Fits %t: %d, %d", loads, ok, err, err2)
				}
			}
		})
	}
	all.Wait()
}
