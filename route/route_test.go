package route_test

import (
	"math"
	"math/rand"
	"slices"
	"sync"
	"testing"

	"tollbar/api"
	"tollbar/bundle"
	"tollbar/cut"
	"tollbar/graph"
	"tollbar/route"
	"tollbar/samples"
	"tollbar/within"
)

const great = api.MaxRate

// sample is what is asked but for the rate, and what is due.
type sample struct {
	name string
	g    api.Graph
	caps []int
	src  int
	dst  int
	// most is the greatest rate that goes.
	most int
	// ways: all that may go over which links at that rate, if that is written out; else nil.
	ways [][]api.Path
	// side: the vertices of the least cut, if no other one is as little; else nil.
	side []int
}

// same gives as many of one number.
func same(n int, x int) []int {
	return slices.Repeat([]int{x}, n)
}

// over is a path over links.
func over(rate int, links ...int) api.Path {
	return api.Path{Rate: rate, Links: links}
}

// just is what goes over which links, if nothing else may.
func just(ps ...api.Path) [][]api.Path {
	return [][]api.Path{ps}
}

// open makes a sample whose caps are the Caps of its links.
func open(name string, g api.Graph, src int, dst int, most int, ways [][]api.Path, side ...int) sample {
	return sample{name, g, samples.Caps(g), src, dst, most, ways, side}
}

// nowhere: no rate goes.
func nowhere() []sample {
	line, town, full := samples.Line(), samples.Town(), samples.Full()
	round := samples.Graph(4, [3]int{0, 1, 2}, [3]int{1, 2, 2}, [3]int{2, 0, 2})
	apart := samples.Graph(4, [3]int{0, 1, 2}, [3]int{2, 3, 2})
	return []sample{
		open("no links", samples.Graph(2), 0, 1, 0, nil, 0),
		open("no links, the other way", samples.Graph(2), 1, 0, 0, nil, 1),
		open("no links, three vertices", samples.Graph(3), 2, 0, 0, nil),
		{"no links, empty lists", api.Graph{Verts: api.MaxVerts, Links: []api.Link{}}, []int{}, 7, 3, 0, nil, nil},
		open("a Cap of 0", samples.Graph(2, [3]int{0, 1, 0}), 0, 1, 0, nil, 0),
		{"a cap of 0", samples.Graph(2, [3]int{0, 1, great}), []int{0}, 0, 1, 0, nil, []int{0}},
		open("against the only link", samples.Graph(2, [3]int{0, 1, great}), 1, 0, 0, nil, 1),
		{"a cap of 0 on the first link of the only way", line, []int{0, 3, 3, 3, 3, 3, 3}, 0, 7, 0, nil, []int{0}},
		{"a cap of 0 in the midst of the only way", line, []int{3, 3, 3, 0, 3, 3, 3}, 0, 7, 0, nil, []int{0, 1, 2, 3}},
		{"a cap of 0 on the last link of the only way", line, []int{3, 3, 3, 3, 3, 3, 0}, 0, 7, 0, nil, []int{0, 1, 2, 3, 4, 5, 6}},
		{"caps of 0 along the only way", line, same(7, 0), 0, 7, 0, nil, nil},
		{"caps of 0, a town", town, same(8, 0), 0, 3, 0, nil, nil},
		{"caps of 0, as many links as may be", full, same(api.MaxLinks, 0), 6, 5, 0, nil, nil},
		{"caps of 0, side by side", samples.Sides(0, 1), same(api.MaxLinks, 0), 0, 1, 0, nil, []int{0}},
		open("against all links", line, 7, 0, 0, nil),
		open("no links lead to the sink", round, 0, 3, 0, nil, 0, 1, 2),
		open("no links lead from the source", round, 3, 0, 0, nil, 3),
		open("the sink lies apart", apart, 0, 3, 0, nil, 0, 1),
		open("what leads to the sink goes against", samples.Graph(3, [3]int{0, 1, 5}, [3]int{2, 1, 5}), 0, 2, 0, nil, 0, 1),
	}
}

// single: one path alone.
func single() []sample {
	one, huge, line := samples.Graph(2, [3]int{0, 1, 5}), samples.Graph(2, [3]int{0, 1, great}), samples.Line()
	down := api.Graph{Verts: api.MaxVerts}
	for v := range api.MaxVerts - 1 {
		down.Links = append(down.Links, api.Link{From: v + 1, To: v, Cap: 9})
	}
	mixed := samples.Graph(4, [3]int{3, 1, 9}, [3]int{0, 2, 7}, [3]int{1, 0, 8})
	halves := samples.Graph(3, [3]int{0, 1, great / 2}, [3]int{1, 2, great / 2})
	return []sample{
		open("a link", one, 0, 1, 5, just(over(5, 0)), 0),
		{"a link, below its Cap", one, []int{4}, 0, 1, 4, just(over(4, 0)), []int{0}},
		{"a link that takes 1", one, []int{1}, 0, 1, 1, just(over(1, 0)), []int{0}},
		open("a link at the greatest rate", huge, 0, 1, great, just(over(great, 0)), 0),
		{"a link one below the greatest rate", huge, []int{great - 1}, 0, 1, great - 1, just(over(great-1, 0)), []int{0}},
		open("a link from the greater vertex", samples.Graph(2, [3]int{1, 0, 5}), 1, 0, 5, just(over(5, 0)), 1),
		open("a link among many", samples.Graph(5, [3]int{0, 1, 2}, [3]int{4, 2, 6}, [3]int{3, 1, 2}), 4, 2, 6, just(over(6, 1))),
		open("as many vertices as may be", line, 0, 7, 3, just(over(3, 0, 1, 2, 3, 4, 5, 6))),
		{"as many vertices as may be, below their Caps", line, same(7, 2), 0, 7, 2, just(over(2, 0, 1, 2, 3, 4, 5, 6)), nil},
		{"as many vertices as may be, narrow first", line, []int{1, 3, 3, 3, 3, 3, 3}, 0, 7, 1, just(over(1, 0, 1, 2, 3, 4, 5, 6)), []int{0}},
		{"as many vertices as may be, narrow in the midst", line, []int{3, 3, 3, 3, 2, 3, 3}, 0, 7, 2, just(over(2, 0, 1, 2, 3, 4, 5, 6)), []int{0, 1, 2, 3, 4}},
		{"as many vertices as may be, narrow last", line, []int{3, 3, 3, 3, 3, 3, 2}, 0, 7, 2, just(over(2, 0, 1, 2, 3, 4, 5, 6)), []int{0, 1, 2, 3, 4, 5, 6}},
		{"as many vertices as may be, from the greatest", down, []int{9, 9, 9, 4, 9, 9, 9}, 7, 0, 4, just(over(4, 6, 5, 4, 3, 2, 1, 0)), []int{4, 5, 6, 7}},
		{"a part of a line", line, []int{1, 3, 3, 2, 3, 3, 1}, 2, 5, 2, just(over(2, 2, 3, 4)), nil},
		open("against the numbers", mixed, 3, 2, 7, just(over(7, 0, 2, 1)), 0, 1, 3),
		open("halves of the greatest rate", halves, 0, 2, great/2, just(over(great/2, 0, 1))),
	}
}

// parallel: links between two vertices, side by side.
func parallel() []sample {
	up, down := samples.Sides(0, 1), samples.Sides(1, 0)
	few := samples.Graph(2, [3]int{0, 1, 5}, [3]int{0, 1, 4}, [3]int{1, 0, 3}, [3]int{0, 1, 0}, [3]int{0, 1, 2})
	alike := api.Graph{Verts: 2, Links: slices.Repeat([]api.Link{{From: 0, To: 1, Cap: great / api.MaxLinks}}, api.MaxLinks)}
	var each, eachAlike, ones []api.Path
	for i := range api.MaxLinks {
		each = append(each, over(i+1, i))
		eachAlike = append(eachAlike, over(great/api.MaxLinks, i))
		ones = append(ones, over(1, i))
	}
	return []sample{
		open("side by side", few, 0, 1, 11, just(over(5, 0), over(4, 1), over(2, 4)), 0),
		open("side by side, the other way", few, 1, 0, 3, just(over(3, 2)), 1),
		{"side by side, below their Caps", few, []int{1, 0, 3, 0, 2}, 0, 1, 3, just(over(1, 0), over(2, 4)), []int{0}},
		open("side by side, the greatest rate together", samples.Graph(2, [3]int{0, 1, great - 1}, [3]int{0, 1, 1}), 0, 1, great, just(over(great-1, 0), over(1, 1)), 0),
		open("as many links as may be", up, 0, 1, 136, just(each...), 0),
		open("as many links as may be, from the greater vertex", down, 1, 0, 136, just(each...), 1),
		{"as many links as may be, of 1", up, same(api.MaxLinks, 1), 0, 1, api.MaxLinks, just(ones...), []int{0}},
		open("as many links as may be, the greatest rate together", alike, 0, 1, great, just(eachAlike...), 0),
		open("as many links as may be, against them", up, 1, 0, 0, nil, 1),
	}
}

// parting: paths that share links, part and meet again.
func parting() []sample {
	square := samples.Graph(4, [3]int{0, 1, 5}, [3]int{1, 3, 4}, [3]int{0, 2, 3}, [3]int{2, 3, 5}, [3]int{0, 3, 5})
	again := samples.Graph(6, [3]int{0, 1, 9}, [3]int{1, 2, 4}, [3]int{1, 3, 8}, [3]int{2, 4, 8}, [3]int{3, 4, 3}, [3]int{4, 5, 9})
	back := samples.Graph(6, [3]int{1, 0, 9}, [3]int{2, 1, 4}, [3]int{3, 1, 8}, [3]int{4, 2, 8}, [3]int{4, 3, 3}, [3]int{5, 4, 9})
	two := samples.Graph(3, [3]int{0, 1, 5}, [3]int{0, 1, 4}, [3]int{1, 2, 10})
	twice := samples.Graph(3, [3]int{0, 1, 2}, [3]int{0, 1, 3}, [3]int{1, 2, 1}, [3]int{1, 2, 4})
	four := samples.Graph(8, [3]int{0, 4, 4}, [3]int{4, 5, 4}, [3]int{5, 7, 4}, [3]int{7, 6, 4}, [3]int{0, 6, 1}, [3]int{0, 1, 2}, [3]int{1, 6, 2}, [3]int{0, 2, 3}, [3]int{2, 3, 3}, [3]int{3, 6, 3})
	steps := samples.Graph(8, [3]int{0, 1, 6}, [3]int{1, 2, 5}, [3]int{2, 3, 4}, [3]int{3, 4, 3}, [3]int{4, 5, 2}, [3]int{5, 6, 1}, [3]int{0, 7, 1}, [3]int{1, 7, 1}, [3]int{2, 7, 1}, [3]int{3, 7, 1}, [3]int{4, 7, 1}, [3]int{5, 7, 1}, [3]int{6, 7, 1})
	alone := just(over(1, 6), over(1, 0, 7), over(1, 0, 1, 8), over(1, 0, 1, 2, 9), over(1, 0, 1, 2, 3, 10), over(1, 0, 1, 2, 3, 4, 11), over(1, 0, 1, 2, 3, 4, 5, 12))
	return []sample{
		open("one and two links long", square, 0, 3, 12, just(over(4, 0, 1), over(3, 2, 3), over(5, 4)), 0, 1),
		{"one and two links long, below their Caps", square, []int{1, 4, 3, 2, 0}, 0, 3, 3, just(over(1, 0, 1), over(2, 2, 3)), []int{0, 2}},
		open("parting and meeting again", again, 0, 5, 7, just(over(4, 0, 1, 3, 5), over(3, 0, 2, 4, 5)), 0, 1, 3),
		{"parting and meeting again, below their Caps", again, []int{9, 4, 8, 2, 1, 9}, 0, 5, 3, just(over(2, 0, 1, 3, 5), over(1, 0, 2, 4, 5)), []int{0, 1, 2, 3}},
		open("parting and meeting again, from the greatest vertex", back, 5, 0, 7, just(over(4, 5, 3, 1, 0), over(3, 5, 4, 2, 0)), 2, 4, 5),
		open("two, then one", two, 0, 2, 9, just(over(5, 0, 2), over(4, 1, 2)), 0),
		{"two, then one that is narrower", two, []int{5, 4, 8}, 0, 2, 8, nil, []int{0, 1}},
		{"two, then two", twice, []int{2, 3, 1, 4}, 0, 2, 5, [][]api.Path{{over(2, 0, 3), over(1, 1, 2), over(2, 1, 3)}, {over(1, 0, 2), over(1, 0, 3), over(3, 1, 3)}}, nil},
		open("one to four links long", four, 0, 6, 10, just(over(4, 0, 1, 2, 3), over(1, 4), over(2, 5, 6), over(3, 7, 8, 9))),
		open("one to seven links long", steps, 0, 7, 7, alone),
	}
}

// leading: links that lead back, into the source, out of the sink, round.
func leading() []sample {
	home := samples.Graph(3, [3]int{0, 1, 4}, [3]int{1, 2, 3}, [3]int{2, 0, 9}, [3]int{2, 1, 9}, [3]int{1, 0, 9})
	pair := samples.Graph(2, [3]int{1, 0, 9}, [3]int{0, 1, 4})
	round := samples.Graph(3, [3]int{0, 1, 2}, [3]int{1, 2, 2}, [3]int{2, 0, 2})
	beside := samples.Graph(5, [3]int{0, 1, 3}, [3]int{1, 2, 2}, [3]int{1, 3, 7}, [3]int{3, 4, 7}, [3]int{4, 1, 7})
	nowhere := samples.Graph(4, [3]int{0, 3, 5}, [3]int{0, 1, 5}, [3]int{1, 3, 5}, [3]int{1, 2, 4})
	line := samples.Line()
	for v := range api.MaxVerts - 1 {
		line.Links = append(line.Links, api.Link{From: v + 1, To: v, Cap: 8})
	}
	return []sample{
		open("back from the sink and into the source", home, 0, 2, 3, just(over(3, 0, 1)), 0, 1),
		open("back from the sink and into the source, the other way", home, 2, 0, 18, just(over(9, 2), over(9, 3, 4))),
		open("a link back beside the link there", pair, 0, 1, 4, just(over(4, 1)), 0),
		open("a link back beside the link there, the other way", pair, 1, 0, 9, just(over(9, 0)), 1),
		open("a round over source and sink", round, 0, 2, 2, just(over(2, 0, 1))),
		open("a round over source and sink, the link back", round, 2, 0, 2, just(over(2, 2))),
		open("a round beside the way", beside, 0, 2, 2, just(over(2, 0, 1)), 0, 1, 3, 4),
		open("a way that leads nowhere", nowhere, 0, 2, 4, just(over(4, 1, 3)), 0, 1, 3),
		open("back along a line", line, 0, 7, 3, just(over(3, 0, 1, 2, 3, 4, 5, 6))),
		open("back along a line, the other way", line, 7, 0, 8, just(over(8, 13, 12, 11, 10, 9, 8, 7))),
	}
}

// backs: the greatest rate goes only if the shorter ways give room to the longer ones.
func backs() []sample {
	// The short way goes over link 1, the longer ones end and begin at it.
	bridge := samples.Graph(6, [3]int{0, 1, 5}, [3]int{1, 2, 4}, [3]int{2, 5, 4}, [3]int{0, 3, 2}, [3]int{3, 2, 2}, [3]int{1, 4, 3}, [3]int{4, 5, 3})
	long := samples.Graph(8, [3]int{0, 1, 1}, [3]int{1, 2, 1}, [3]int{2, 7, 1}, [3]int{0, 3, 1}, [3]int{3, 4, 1}, [3]int{4, 2, 1}, [3]int{1, 5, 1}, [3]int{5, 6, 1}, [3]int{6, 7, 1})
	zigzag := samples.Graph(4, [3]int{0, 1, great / 8}, [3]int{0, 2, great / 8}, [3]int{1, 2, 1}, [3]int{1, 3, great / 8}, [3]int{2, 3, great / 8})
	return []sample{
		{"all links take 1", bridge, same(7, 1), 0, 5, 2, just(over(1, 0, 5, 6), over(1, 3, 4, 2)), nil},
		open("some of the short way is left", bridge, 0, 5, 7, just(over(2, 0, 1, 2), over(3, 0, 5, 6), over(2, 3, 4, 2))),
		{"nothing of the short way is left", bridge, same(7, 2), 0, 5, 4, just(over(2, 0, 5, 6), over(2, 3, 4, 2)), nil},
		open("over all vertices", long, 0, 7, 2, just(over(1, 0, 6, 7, 8), over(1, 3, 4, 5, 2))),
		open("great caps beside a cap of 1", zigzag, 0, 3, great/4, just(over(great/8, 0, 3), over(great/8, 1, 4))),
	}
}

// towns: of graphs with many links.
func towns() []sample {
	town, full := samples.Town(), samples.Full()
	// Three ranks of two between 0 and 7.
	ranks := samples.Graph(8, [3]int{0, 1, 9}, [3]int{0, 2, 9}, [3]int{1, 3, 2}, [3]int{1, 4, 2}, [3]int{2, 3, 2}, [3]int{2, 4, 2}, [3]int{3, 5, 3}, [3]int{3, 6, 1}, [3]int{4, 5, 1}, [3]int{4, 6, 3}, [3]int{5, 7, 9}, [3]int{6, 7, 9}, [3]int{0, 1, 9}, [3]int{5, 7, 1}, [3]int{1, 3, 1}, [3]int{4, 6, 1})
	return []sample{
		open("a town", town, 0, 3, 7, nil),
		open("a town, from 2", town, 2, 0, 4, just(over(4, 5, 2)), 2),
		open("a town, to 2", town, 3, 2, 1, [][]api.Path{{over(1, 2, 0, 4)}, {over(1, 2, 3, 4)}}, 0, 1, 3),
		{"a town, below its Caps", town, []int{2, 6, 1, 1, 1, 4, 3, 0}, 0, 3, 3, nil, []int{0}},
		open("as many links as may be", full, 1, 2, great/8, nil),
		open("as many links as may be, farther off", full, 1, 5, great/8, nil),
		{"as many links as may be, of 1", full, same(api.MaxLinks, 1), 7, 6, 2, nil, nil},
		open("three ranks", ranks, 0, 7, 8, nil, 0, 1, 2, 3),
	}
}

func all() []sample {
	return slices.Concat(nowhere(), single(), parallel(), parting(), leading(), backs(), towns())
}

// rates gives what may be asked for where so much goes: all that is little, what just goes, one below and one above it, the greatest rate.
func rates(most int) []int {
	list := []int{great - 1, great}
	for rate := 1; rate <= min(most, 140)+3; rate++ {
		list = append(list, rate)
	}
	for _, rate := range []int{most - 1, most, most + 1, most / 2} {
		if rate > 0 && rate <= great {
			list = append(list, rate)
		}
	}
	return list
}

// P16.1, by hand.

func TestSamples(t *testing.T) {
	for _, x := range all() {
		if least := samples.LeastCut(x.g, x.caps, x.src, x.dst); least != x.most {
			t.Errorf("%s: the least cut is %d, not %d", x.name, least, x.most)
		}
		for _, ps := range x.ways {
			if why := fault(x.g, x.caps, x.src, x.dst, x.most, ps, nil); why != "" {
				t.Errorf("%s: %v: %s", x.name, ps, why)
			}
		}
		if cuts := leastCuts(x); len(cuts) == 1 && !slices.Equal(x.side, cuts[0]) || len(cuts) != 1 && x.side != nil {
			t.Errorf("%s: the least cuts are %v, not %v", x.name, cuts, x.side)
		}
	}
}

// leastCuts gives all cuts of a sample whose links out take no more than what goes at most.
func leastCuts(x sample) [][]int {
	var all [][]int
	for bits := range 1 << x.g.Verts {
		var vs []int
		for v := range x.g.Verts {
			if bits>>v&1 == 1 {
				vs = append(vs, v)
			}
		}
		worth, _ := cut.Worth(x.g, x.caps, vs)
		if cut.May(x.g, x.src, x.dst, vs) && worth <= x.most {
			all = append(all, vs)
		}
	}
	return all
}

func TestRoute(t *testing.T) {
	for _, x := range all() {
		for _, rate := range rates(x.most) {
			ps, vs := check(t, x.g, x.caps, x.src, x.dst, rate)
			if goes := rate <= x.most; goes != (len(ps) > 0) || goes != (len(vs) == 0) {
				t.Errorf("%s: %d of %d: %v, %v", x.name, rate, x.most, ps, vs)
			}
			asDue := func(way []api.Path) bool { return samples.Alike(samples.ByLinks(ps), samples.ByLinks(way)) }
			if rate == x.most && x.ways != nil && !slices.ContainsFunc(x.ways, asDue) {
				t.Errorf("%s: %v, want one of %v", x.name, ps, x.ways)
			}
			if rate == x.most+1 && x.side != nil && !slices.Equal(vs, x.side) {
				t.Errorf("%s: %v, want %v", x.name, vs, x.side)
			}
		}
	}
}

// A rate that goes over one link alone takes its one path, whatever the rate.
func TestEachRateOverOneLink(t *testing.T) {
	g := samples.Graph(2, [3]int{0, 1, great})
	for _, c := range []int{0, 1, 2, 9, 1 << 31, 1<<53 + 1, great - 1, great} {
		for _, rate := range rates(c) {
			ps, vs, err := route.Route(g, []int{c}, 0, 1, rate)
			if rate <= c && (!samples.Alike(samples.ByLinks(ps), []api.Path{over(rate, 0)}) || len(vs) != 0) || rate > c && (len(ps) != 0 || !slices.Equal(vs, []int{0})) || err != api.OK {
				t.Errorf("%d over a cap of %d: %v, %v, %d", rate, c, ps, vs, err)
			}
		}
	}
}

// P16.1, wrong inputs.

func refused(t *testing.T, name string, g api.Graph, caps []int, src int, dst int, rate int) {
	t.Helper()
	if ps, vs, err := route.Route(g, caps, src, dst, rate); len(ps) != 0 || len(vs) != 0 || err != api.ErrRouteForm {
		t.Errorf("%s: Route(%v, %v, %d, %d, %d): %v, %v, %d", name, g, caps, src, dst, rate, ps, vs, err)
	}
}

func TestOfGraphsThatMayNotBe(t *testing.T) {
	for _, b := range samples.BadGraphs() {
		for _, caps := range [][]int{nil, make([]int, len(b.Graph.Links)), samples.Caps(b.Graph)} {
			for _, ends := range [][2]int{{0, 1}, {1, 0}, {0, 3}, {3, 0}, {0, 0}, {-1, 9}} {
				for _, rate := range []int{-1, 0, 1, great, great + 1} {
					refused(t, b.Name, b.Graph, caps, ends[0], ends[1], rate)
				}
			}
		}
	}
}

func TestOfCapsThatAreNone(t *testing.T) {
	for _, x := range all() {
		for _, no := range samples.Outside(samples.Caps(x.g)) {
			for _, rate := range []int{-1, 0, 1, max(1, x.most), great} {
				refused(t, "no caps", x.g, no, x.src, x.dst, rate)
			}
		}
	}
}

func TestOfEndsThatMayNotBe(t *testing.T) {
	for _, x := range all() {
		for _, rate := range []int{-1, 0, 1, max(1, x.most), great} {
			for _, no := range samples.NoVerts(x.g) {
				refused(t, "src is no vertex", x.g, x.caps, no, x.dst, rate)
				refused(t, "dst is no vertex", x.g, x.caps, x.src, no, rate)
				refused(t, "neither is a vertex", x.g, x.caps, no, no, rate)
			}
			for v := range x.g.Verts {
				refused(t, "src is dst", x.g, x.caps, v, v, rate)
			}
		}
	}
}

func TestOfWhatIsNoRateAboveZero(t *testing.T) {
	for _, x := range all() {
		for _, rate := range []int{math.MinInt, -great - 1, -great, -x.most - 1, -1, 0, great + 1, 2*great - 1, math.MaxInt} {
			refused(t, "no rate above 0", x.g, x.caps, x.src, x.dst, rate)
			refused(t, "no rate above 0, the other way", x.g, x.caps, x.dst, x.src, rate)
		}
	}
}

// P16.1, against the words of the chapter.

// fault tells which of the chapter's words an answer breaks, if any.
func fault(g api.Graph, caps []int, src int, dst int, rate int, ps []api.Path, vs []int) string {
	if len(ps) > 0 && len(vs) > 0 {
		return "both"
	}
	if len(ps) > 0 {
		if !bundle.May(g, src, dst, rate, ps...) {
			return "no paths of that rate"
		}
		if fit, err := bundle.Fits(g, caps, ps...); !fit || err != api.OK {
			return "above caps"
		}
		return ""
	}
	if sure, err := cut.Proves(g, caps, src, dst, rate, vs); !sure || err != api.OK {
		return "no proof"
	}
	return ""
}

// The words of the chapter themselves: an answer that breaks one of them is found out.
func TestFault(t *testing.T) {
	// Links 0 and 1 lead on to link 2, link 3 goes back beside it, link 4 straight on.
	g := samples.Graph(3, [3]int{0, 1, 9}, [3]int{0, 1, 9}, [3]int{1, 2, 9}, [3]int{2, 1, 9}, [3]int{0, 2, 9})
	caps := []int{5, 2, 6, 4, 3}
	for _, x := range []struct {
		name string
		rate int
		ps   []api.Path
		vs   []int
	}{
		{"", 9, []api.Path{over(4, 0, 2), over(2, 1, 2), over(3, 4)}, nil},
		{"", 9, []api.Path{over(5, 0, 2), over(1, 1, 2), over(3, 4)}, nil},
		{"", 1, []api.Path{over(1, 1, 2)}, nil},
		{"", 10, nil, []int{0, 1}},
		{"", great, nil, []int{0}},
		{"both", 9, []api.Path{over(4, 0, 2), over(2, 1, 2), over(3, 4)}, []int{0}},
		{"both", 10, []api.Path{over(1, 1, 2)}, []int{0, 1}},
		{"no paths of that rate", 9, []api.Path{over(4, 0, 2), over(2, 1, 2)}, nil},
		{"no paths of that rate", 5, []api.Path{over(4, 0, 2), over(2, 1, 2)}, nil},
		{"no paths of that rate", 4, []api.Path{over(4, 0)}, nil},
		{"no paths of that rate", 1, []api.Path{over(1, 4, 3, 2)}, nil},
		{"no paths of that rate", 3, []api.Path{over(3, 4), over(0, 4)}, nil},
		{"above caps", 9, []api.Path{over(6, 0, 2), over(3, 4)}, nil},
		{"above caps", 4, []api.Path{over(4, 4)}, nil},
		{"above caps", 7, []api.Path{over(5, 0, 2), over(2, 1, 2)}, nil},
		{"no proof", 9, nil, nil},
		{"no proof", 9, nil, []int{0, 1}},
		{"no proof", 10, nil, []int{0}},
		{"no proof", 10, nil, []int{1, 0}},
		{"no proof", 10, nil, []int{1}},
		{"no proof", great, nil, []int{0, 2}},
		{"no proof", great, nil, []int{0, 1, 2}},
		{"no proof", great, nil, nil},
	} {
		if got := fault(g, caps, 0, 2, x.rate, x.ps, x.vs); got != x.name {
			t.Errorf("%d: %v, %v: %q, want %q", x.rate, x.ps, x.vs, got, x.name)
		}
	}
}

// may tells whether it is what Route may be asked.
func may(g api.Graph, caps []int, src int, dst int, rate int) bool {
	return graph.May(g) && within.Caps(g, caps) && within.Verts(g, src, dst) && src != dst && rate > 0 && rate <= great
}

// check holds Route against the words of the chapter and against the least cut, and gives what it answers.
func check(t *testing.T, g api.Graph, caps []int, src int, dst int, rate int) ([]api.Path, []int) {
	t.Helper()
	if !may(g, caps, src, dst, rate) {
		refused(t, "may not be", g, caps, src, dst, rate)
		return nil, nil
	}
	ps, vs, err := route.Route(g, caps, src, dst, rate)
	if err != api.OK {
		t.Errorf("Route(%v, %v, %d, %d, %d): %d", g, caps, src, dst, rate, err)
		return ps, vs
	}
	if why := fault(g, caps, src, dst, rate, ps, vs); why != "" {
		t.Errorf("Route(%v, %v, %d, %d, %d): %v, %v: %s", g, caps, src, dst, rate, ps, vs, why)
	}
	if least := samples.LeastCut(g, caps, src, dst); (rate <= least) != (len(ps) > 0) {
		t.Errorf("Route(%v, %v, %d, %d, %d): %v, %v, but the least cut is %d", g, caps, src, dst, rate, ps, vs, least)
	}
	return ps, vs
}

func TestBetweenAllVertices(t *testing.T) {
	for _, x := range all() {
		for src := -1; src <= x.g.Verts; src++ {
			for dst := -1; dst <= x.g.Verts; dst++ {
				for _, rate := range []int{-1, 0, 1, x.most, x.most + 1, great} {
					check(t, x.g, x.caps, src, dst, rate)
				}
				if may(x.g, x.caps, src, dst, 1) {
					least := samples.LeastCut(x.g, x.caps, src, dst)
					check(t, x.g, x.caps, src, dst, least)
					check(t, x.g, x.caps, src, dst, least+1)
				}
			}
		}
	}
}

// All caps of small rates, and each rate up to some more than can go.
func TestAllSmallCaps(t *testing.T) {
	g := samples.Graph(4, [3]int{0, 1, 3}, [3]int{1, 3, 3}, [3]int{0, 2, 3}, [3]int{2, 3, 3}, [3]int{1, 2, 3})
	for _, caps := range samples.Lists([]int{0, 1, 2, 3}, 5) {
		for rate := -1; rate <= 8; rate++ {
			check(t, g, caps, 0, 3, rate)
		}
	}
}

// All graphs of four vertices and up to four links, which take unlike rates; what just goes, and one above it.
func TestAllSmallGraphs(t *testing.T) {
	for _, g := range samples.Small(4, 1, 2, 3) {
		caps := samples.Caps(g)
		least := samples.LeastCut(g, caps, 0, 3)
		check(t, g, caps, 0, 3, least)
		check(t, g, caps, 0, 3, least+1)
	}
}

func TestWhateverGraphs(t *testing.T) {
	r := rand.New(rand.NewSource(16))
	whole, part, above, far := 0, 0, 0, 0
	for range 10000 {
		g := samples.Drawn(r.Intn, []int{2, 6, 1000, great / api.MaxLinks}[r.Intn(4)])
		caps := samples.Caps(g)
		src := r.Intn(g.Verts)
		dst := (src + 1 + r.Intn(g.Verts-1)) % g.Verts
		least := samples.LeastCut(g, caps, src, dst)
		rate := max(1, []int{r.Intn(least + 1), least, least + 1, least + 1 + r.Intn(great-least)}[r.Intn(4)])
		check(t, g, caps, src, dst, rate)
		switch {
		case rate == least:
			whole++
		case rate < least:
			part++
		case rate == least+1:
			above++
		default:
			far++
		}
	}
	if whole < 1000 || part < 800 || above < 1000 || far < 1000 {
		t.Errorf("only %d just go, %d less, %d one above, %d more", whole, part, above, far)
	}
}

func TestWhateverCaps(t *testing.T) {
	r := rand.New(rand.NewSource(161))
	granted, cuts, no := 0, 0, 0
	for range 10000 {
		g := samples.Drawn(r.Intn, []int{2, 6, 20, great / api.MaxLinks}[r.Intn(4)])
		caps := samples.DrawnBelow(r.Intn, samples.Caps(g))
		src, dst, rate := r.Intn(g.Verts+2)-1, r.Intn(g.Verts+2)-1, r.Intn(8)-1
		ps, vs := check(t, g, caps, src, dst, rate)
		switch {
		case len(ps) > 0:
			granted++
		case len(vs) > 0:
			cuts++
		default:
			no++
		}
	}
	if granted < 500 || cuts < 1000 || no < 1000 {
		t.Errorf("only %d granted, %d cuts, %d refused", granted, cuts, no)
	}
}

// R4: what is handed in is not changed, nor its spare room, nor kept; answers are new memory.

func TestWhatIsHandedInIsNotChanged(t *testing.T) {
	untouched := func(g api.Graph, caps []int, src int, dst int, rate int) {
		t.Helper()
		links, wholeLinks := samples.Roomy(g.Links, api.Link{From: -7, To: -8, Cap: -9})
		caps, wholeCaps := samples.Roomy(caps, -7)
		wasLinks, wasCaps := slices.Clone(wholeLinks), slices.Clone(wholeCaps)
		route.Route(api.Graph{Verts: g.Verts, Links: links}, caps, src, dst, rate)
		if !slices.Equal(wholeLinks, wasLinks) || !slices.Equal(wholeCaps, wasCaps) {
			t.Errorf("changed: %v, %v", wholeLinks, wholeCaps)
		}
	}
	for _, x := range all() {
		for _, rate := range []int{-1, 0, 1, x.most, x.most + 1, great} {
			untouched(x.g, x.caps, x.src, x.dst, rate)
			untouched(x.g, x.caps, x.dst, x.src, rate)
		}
		for _, no := range samples.Outside(samples.Caps(x.g)) {
			untouched(x.g, no, x.src, x.dst, 1)
		}
	}
	for _, b := range samples.BadGraphs() {
		untouched(b.Graph, samples.Caps(b.Graph), 0, 1, 1)
	}
}

func TestAnswersAreNewMemory(t *testing.T) {
	for _, x := range all() {
		links, caps := slices.Clone(x.g.Links), slices.Clone(x.caps)
		g := api.Graph{Verts: x.g.Verts, Links: links}
		for _, rate := range rates(x.most) {
			one, vs1, _ := route.Route(g, caps, x.src, x.dst, rate)
			was, wasVs := samples.Copied(one), slices.Clone(vs1)
			two, vs2, _ := route.Route(g, caps, x.src, x.dst, rate)
			samples.SpoilPaths(one)
			samples.Spoil(vs1)
			three, vs3, err := route.Route(g, caps, x.src, x.dst, rate)
			if !samples.Alike(two, was) || !samples.Alike(three, was) || !slices.Equal(vs2, wasVs) || !slices.Equal(vs3, wasVs) || err != api.OK {
				t.Errorf("%s: %d: %v, %v, then %v, %v, then %v, %v, %d", x.name, rate, was, wasVs, two, vs2, three, vs3, err)
			}
		}
		if !slices.Equal(links, x.g.Links) || !slices.Equal(caps, x.caps) {
			t.Errorf("%s: the answer is %v, %v", x.name, links, caps)
		}
	}
}

func TestPathsOfOneAnswerShareNoLinks(t *testing.T) {
	for _, x := range all() {
		if x.most == 0 {
			continue
		}
		ps, _, _ := route.Route(x.g, x.caps, x.src, x.dst, x.most)
		was := samples.Copied(ps)
		for i := range ps {
			samples.Spoil(ps[i].Links)
			others, wasOthers := slices.Delete(slices.Clone(ps), i, i+1), slices.Delete(slices.Clone(was), i, i+1)
			if !samples.Alike(others, wasOthers) {
				t.Errorf("%s: path %d shares links with one of %v", x.name, i, others)
			}
			ps[i].Links = slices.Clone(was[i].Links)
		}
	}
}

func TestWhatIsHandedInIsNotKept(t *testing.T) {
	for _, x := range all() {
		for _, rate := range []int{max(1, x.most), min(great, x.most+1)} {
			g := api.Graph{Verts: x.g.Verts, Links: slices.Clone(x.g.Links)}
			caps := slices.Clone(x.caps)
			ps, vs, err := route.Route(g, caps, x.src, x.dst, rate)
			was, wasVs := samples.Copied(ps), slices.Clone(vs)
			for i := range g.Links {
				g.Links[i] = api.Link{From: 1, To: 0, Cap: 2}
				caps[i] = 2
			}
			if !samples.Alike(ps, was) || !slices.Equal(vs, wasVs) || err != api.OK {
				t.Errorf("%s: the answer turned: %v, %v, %d", x.name, ps, vs, err)
			}
			check(t, g, caps, 1, 0, 2)
			check(t, x.g, x.caps, x.src, x.dst, rate)
		}
	}
}

// R5: the same answer each time, from several goroutines at one time.

func TestFromSeveralGoroutines(t *testing.T) {
	g, caps := samples.Town(), samples.Caps(samples.Town())
	wantPs, _, _ := route.Route(g, caps, 0, 3, 7)
	_, wantVs, _ := route.Route(g, caps, 0, 3, 8)
	var all sync.WaitGroup
	for range 8 {
		all.Go(func() {
			for range 200 {
				ps, none, err := route.Route(g, caps, 0, 3, 7)
				if !samples.Alike(ps, wantPs) || len(none) != 0 || err != api.OK {
					t.Errorf("%v, %v, %d", ps, none, err)
				}
				noPs, vs, err := route.Route(g, caps, 0, 3, 8)
				if len(noPs) != 0 || !slices.Equal(vs, wantVs) || err != api.OK {
					t.Errorf("%v, %v, %d", noPs, vs, err)
				}
				refused(t, "a rate of 0", g, caps, 0, 3, 0)
			}
		})
	}
	all.Wait()
}
