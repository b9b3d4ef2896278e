package strand_test

import (
	"math/rand"
	"slices"
	"sync"
	"testing"

	"tollbar/api"
	"tollbar/bundle"
	"tollbar/path"
	"tollbar/push"
	"tollbar/samples"
	"tollbar/strand"
	"tollbar/stream"
)

const most = api.MaxRate

// sample is a flow, its Value, and all that may go over which links, if that is written out; else nil.
type sample struct {
	name  string
	g     api.Graph
	f     []int
	src   int
	dst   int
	value int
	ways  [][]api.Path
}

// same gives as many of one number.
func same(n int, x int) []int {
	return slices.Repeat([]int{x}, n)
}

// over is a path over links.
func over(rate int, links ...int) api.Path {
	return api.Path{Rate: rate, Links: links}
}

// just is what goes over which links, if nothing else may.
func just(ps ...api.Path) [][]api.Path {
	return [][]api.Path{ps}
}

// ring: links from each vertex to the one behind it, from the last one to the first; as many turns of that, side by side.
func ring(turns int) api.Graph {
	g := api.Graph{Verts: api.MaxVerts}
	for range turns {
		for v := range api.MaxVerts {
			g.Links = append(g.Links, api.Link{From: v, To: (v + 1) % api.MaxVerts, Cap: 9})
		}
	}
	return g
}

// zeros: flows of 0 everywhere.
func zeros() []sample {
	town, full := samples.Town(), samples.Full()
	return []sample{
		{"no links", samples.Graph(2), nil, 0, 1, 0, just()},
		{"no links, the other way", samples.Graph(2), nil, 1, 0, 0, just()},
		{"no links, an empty list", samples.Graph(3), []int{}, 0, 2, 0, just()},
		{"no links, as many vertices as may be", samples.Graph(api.MaxVerts), nil, 7, 3, 0, just()},
		{"0 on a link", samples.Graph(2, [3]int{0, 1, 5}), []int{0}, 0, 1, 0, just()},
		{"0 on a link back", samples.Graph(2, [3]int{0, 1, 5}), []int{0}, 1, 0, 0, just()},
		{"a Cap of 0", samples.Graph(2, [3]int{0, 1, 0}), []int{0}, 0, 1, 0, just()},
		{"0 everywhere, a town", town, same(8, 0), 0, 3, 0, just()},
		{"0 everywhere, as many links as may be", full, same(api.MaxLinks, 0), 1, 2, 0, just()},
	}
}

// rounds: cycles alone, whose Value is 0.
func rounds() []sample {
	back := samples.Graph(2, [3]int{0, 1, 5}, [3]int{1, 0, 4})
	great := samples.Graph(2, [3]int{0, 1, most / 2}, [3]int{1, 0, most / 2})
	apart := samples.Graph(5, [3]int{0, 1, 5}, [3]int{2, 3, 5}, [3]int{3, 4, 5}, [3]int{4, 2, 5})
	atSrc := samples.Graph(3, [3]int{0, 1, 5}, [3]int{1, 0, 5}, [3]int{1, 2, 5})
	atDst := samples.Graph(3, [3]int{0, 1, 5}, [3]int{1, 2, 5}, [3]int{2, 1, 5})
	eight := samples.Graph(3, [3]int{0, 1, 9}, [3]int{1, 0, 9}, [3]int{1, 2, 9}, [3]int{2, 1, 9})
	one, full := ring(1), samples.Full()
	return []sample{
		{"a cycle over src and dst", back, []int{3, 3}, 0, 1, 0, just()},
		{"a cycle over src and dst, the other way", back, []int{3, 3}, 1, 0, 0, just()},
		{"a cycle at the greatest rate", great, same(2, most/2), 0, 1, 0, just()},
		{"a cycle apart", apart, []int{0, 2, 2, 2}, 0, 1, 0, just()},
		{"a cycle over src", atSrc, []int{2, 2, 0}, 0, 2, 0, just()},
		{"a cycle over dst", atDst, []int{0, 2, 2}, 0, 2, 0, just()},
		{"a cycle between", atDst, []int{0, 2, 2}, 1, 0, 0, just()},
		{"two cycles, one over src, one over dst", eight, []int{3, 3, 4, 4}, 0, 2, 0, just()},
		{"a cycle over all vertices", one, same(8, 9), 0, 7, 0, just()},
		{"a cycle over all vertices, the other way", one, same(8, 9), 7, 0, 0, just()},
		{"as many links as may be lead round", full, same(api.MaxLinks, 5), 2, 7, 0, just()},
		{"as many links as may be lead round, full", full, samples.Caps(full), 7, 2, 0, just()},
	}
}

// single: one path, over links of unlike numbers.
func single() []sample {
	one, great := samples.Graph(2, [3]int{0, 1, 5}), samples.Graph(2, [3]int{0, 1, most})
	line, back := samples.Line(), api.Graph{Verts: api.MaxVerts}
	for v := range api.MaxVerts - 1 {
		back.Links = append(back.Links, api.Link{From: v + 1, To: v, Cap: 3})
	}
	mixed := samples.Graph(4, [3]int{3, 1, 9}, [3]int{0, 2, 9}, [3]int{1, 0, 9})
	halves := samples.Graph(3, [3]int{0, 1, most / 2}, [3]int{1, 2, most / 2})
	return []sample{
		{"a link", one, []int{5}, 0, 1, 5, just(over(5, 0))},
		{"a link, below its Cap", one, []int{4}, 0, 1, 4, just(over(4, 0))},
		{"a link that carries 1", one, []int{1}, 0, 1, 1, just(over(1, 0))},
		{"a link at the greatest rate", great, []int{most}, 0, 1, most, just(over(most, 0))},
		{"a link one below the greatest rate", great, []int{most - 1}, 0, 1, most - 1, just(over(most-1, 0))},
		{"a link from the greater vertex", samples.Graph(2, [3]int{1, 0, 5}), []int{5}, 1, 0, 5, just(over(5, 0))},
		{"a link among many", samples.Town(), []int{0, 0, 7, 0, 0, 0, 0, 0}, 3, 0, 7, just(over(7, 2))},
		{"as many vertices as may be", line, same(7, 3), 0, 7, 3, just(over(3, 0, 1, 2, 3, 4, 5, 6))},
		{"as many vertices as may be, below their Caps", line, same(7, 1), 0, 7, 1, just(over(1, 0, 1, 2, 3, 4, 5, 6))},
		{"as many vertices as may be, from the greatest", back, same(7, 2), 7, 0, 2, just(over(2, 6, 5, 4, 3, 2, 1, 0))},
		{"as many vertices as may be, of many links", ring(2), append(same(8, 0), 3, 3, 3, 3, 3, 3, 3, 0), 0, 7, 3, just(over(3, 8, 9, 10, 11, 12, 13, 14))},
		{"from the midst, over the first vertex", ring(1), []int{4, 4, 4, 0, 0, 4, 4, 4}, 5, 3, 4, just(over(4, 5, 6, 7, 0, 1, 2))},
		{"a part of a line", line, []int{0, 0, 3, 3, 3, 0, 0}, 2, 5, 3, just(over(3, 2, 3, 4))},
		{"against the numbers", mixed, []int{6, 6, 6}, 3, 2, 6, just(over(6, 0, 2, 1))},
		{"halves of the greatest rate", halves, same(2, most/2), 0, 2, most / 2, just(over(most/2, 0, 1))},
	}
}

// parallel: links between two vertices, side by side.
func parallel() []sample {
	up, down := samples.Sides(0, 1), samples.Sides(1, 0)
	few := samples.Graph(2, [3]int{0, 1, 5}, [3]int{0, 1, 4}, [3]int{1, 0, 3}, [3]int{0, 1, 0}, [3]int{0, 1, 2})
	great := samples.Graph(2, [3]int{0, 1, most - 1}, [3]int{0, 1, 1})
	alike := api.Graph{Verts: 2, Links: slices.Repeat([]api.Link{{From: 0, To: 1, Cap: most / api.MaxLinks}}, api.MaxLinks)}
	var each, eachAlike []api.Path
	for i := range api.MaxLinks {
		each = append(each, over(i+1, i))
		eachAlike = append(eachAlike, over(most/api.MaxLinks, i))
	}
	return []sample{
		{"side by side", few, []int{5, 4, 0, 0, 2}, 0, 1, 11, just(over(5, 0), over(4, 1), over(2, 4))},
		{"side by side, some of 0", few, []int{0, 4, 0, 0, 1}, 0, 1, 5, just(over(4, 1), over(1, 4))},
		{"side by side, the greatest rate together", great, []int{most - 1, 1}, 0, 1, most, just(over(most-1, 0), over(1, 1))},
		{"as many links as may be", up, samples.Caps(up), 0, 1, 136, just(each...)},
		{"as many links as may be, from the greater vertex", down, samples.Caps(down), 1, 0, 136, just(each...)},
		{"as many links as may be, the greatest rate together", alike, samples.Caps(alike), 0, 1, most, just(eachAlike...)},
		{"as many links as may be, of 1", alike, same(api.MaxLinks, 1), 0, 1, 16, nil},
	}
}

// parting: paths that share links, part and meet again.
func parting() []sample {
	square := samples.Graph(4, [3]int{0, 1, 5}, [3]int{1, 3, 4}, [3]int{0, 2, 3}, [3]int{2, 3, 5}, [3]int{0, 3, 5})
	two := samples.Graph(3, [3]int{0, 1, 5}, [3]int{0, 1, 4}, [3]int{1, 2, 10})
	again := samples.Graph(6, [3]int{0, 1, 9}, [3]int{1, 2, 9}, [3]int{1, 3, 9}, [3]int{2, 4, 9}, [3]int{3, 4, 9}, [3]int{4, 5, 9})
	twice := samples.Graph(3, [3]int{0, 1, 2}, [3]int{0, 1, 3}, [3]int{1, 2, 1}, [3]int{1, 2, 4})
	back := samples.Graph(6, [3]int{1, 0, 9}, [3]int{2, 1, 9}, [3]int{3, 1, 9}, [3]int{4, 2, 9}, [3]int{4, 3, 9}, [3]int{5, 4, 9})
	waist := samples.Graph(4, [3]int{0, 1, 2}, [3]int{0, 1, 3}, [3]int{1, 2, 5}, [3]int{2, 3, 2}, [3]int{2, 3, 3})
	bridge := samples.Graph(8, [3]int{5, 7, 1}, [3]int{6, 7, 4}, [3]int{3, 4, 5}, [3]int{4, 5, 1}, [3]int{4, 6, 4}, [3]int{0, 1, 2}, [3]int{0, 2, 3}, [3]int{1, 3, 2}, [3]int{2, 3, 3})
	four := samples.Graph(8, [3]int{0, 4, 4}, [3]int{4, 5, 4}, [3]int{5, 7, 4}, [3]int{7, 6, 4}, [3]int{0, 6, 1}, [3]int{0, 1, 2}, [3]int{1, 6, 2}, [3]int{0, 2, 3}, [3]int{2, 3, 3}, [3]int{3, 6, 3})
	steps := samples.Graph(8, [3]int{0, 1, 6}, [3]int{1, 2, 5}, [3]int{2, 3, 4}, [3]int{3, 4, 3}, [3]int{4, 5, 2}, [3]int{5, 6, 1}, [3]int{0, 7, 1}, [3]int{1, 7, 1}, [3]int{2, 7, 1}, [3]int{3, 7, 1}, [3]int{4, 7, 1}, [3]int{5, 7, 1}, [3]int{6, 7, 1})
	alone := just(over(1, 6), over(1, 0, 7), over(1, 0, 1, 8), over(1, 0, 1, 2, 9), over(1, 0, 1, 2, 3, 10), over(1, 0, 1, 2, 3, 4, 11), over(1, 0, 1, 2, 3, 4, 5, 12))
	ranks := api.Graph{Verts: 3}
	for i, c := range []int{1, 9, 2, 2, 3, 7, 4, 4, 5, 5, 6, 3, 7, 1, 8, 5} {
		ranks.Links = append(ranks.Links, api.Link{From: i % 2, To: i%2 + 1, Cap: c})
	}
	greatTwo := samples.Graph(3, [3]int{0, 1, most / 4}, [3]int{0, 1, most / 4}, [3]int{1, 2, most / 2})
	return []sample{
		{"one and two links long", square, []int{4, 4, 3, 3, 5}, 0, 3, 12, just(over(4, 0, 1), over(3, 2, 3), over(5, 4))},
		{"two, then one", two, []int{5, 4, 9}, 0, 2, 9, just(over(5, 0, 2), over(4, 1, 2))},
		{"two, then one, great", greatTwo, samples.Caps(greatTwo), 0, 2, most / 2, just(over(most/4, 0, 2), over(most/4, 1, 2))},
		{"parting and meeting again", again, []int{5, 3, 2, 3, 2, 5}, 0, 5, 5, just(over(3, 0, 1, 3, 5), over(2, 0, 2, 4, 5))},
		{"parting alike", again, []int{4, 2, 2, 2, 2, 4}, 0, 5, 4, just(over(2, 0, 1, 3, 5), over(2, 0, 2, 4, 5))},
		{"parting and meeting again, from the greatest vertex", back, []int{5, 3, 2, 3, 2, 5}, 5, 0, 5, just(over(3, 5, 3, 1, 0), over(2, 5, 4, 2, 0))},
		{"the least on the first and the last link", waist, samples.Caps(waist), 0, 3, 5, [][]api.Path{
			{over(2, 0, 2, 3), over(3, 1, 2, 4)},
			{over(2, 0, 2, 4), over(2, 1, 2, 3), over(1, 1, 2, 4)},
			{over(1, 0, 2, 3), over(1, 0, 2, 4), over(1, 1, 2, 3), over(2, 1, 2, 4)},
		}},
		{"parting twice", twice, []int{2, 3, 1, 4}, 0, 2, 5, [][]api.Path{{over(2, 0, 3), over(1, 1, 2), over(2, 1, 3)}, {over(1, 0, 2), over(1, 0, 3), over(3, 1, 3)}}},
		{"over one link in the midst", bridge, samples.Caps(bridge), 0, 7, 5, [][]api.Path{
			{over(2, 5, 7, 2, 4, 1), over(1, 6, 8, 2, 3, 0), over(2, 6, 8, 2, 4, 1)},
			{over(1, 5, 7, 2, 3, 0), over(1, 5, 7, 2, 4, 1), over(3, 6, 8, 2, 4, 1)},
		}},
		{"one to four links long", four, samples.Caps(four), 0, 6, 10, just(over(4, 0, 1, 2, 3), over(1, 4), over(2, 5, 6), over(3, 7, 8, 9))},
		{"one to seven links long", steps, samples.Caps(steps), 0, 7, 7, alone},
		{"eight, then eight", ranks, samples.Caps(ranks), 0, 2, 36, nil},
		{"a town", samples.Town(), []int{4, 3, 0, 0, 1, 1, 0, 0}, 0, 3, 4, just(over(3, 0, 1), over(1, 0, 4, 5))},
		{"a town, side by side", samples.Town(), []int{5, 6, 0, 2, 1, 1, 0, 0}, 0, 3, 7, nil},
	}
}

// leaving: flows beside cycles, whose rate the paths leave on the links.
func leaving() []sample {
	away := samples.Graph(7, [3]int{4, 5, 9}, [3]int{5, 6, 9}, [3]int{6, 4, 9}, [3]int{0, 1, 9}, [3]int{1, 3, 9})
	through := samples.Graph(4, [3]int{0, 1, 9}, [3]int{1, 2, 9}, [3]int{2, 1, 9}, [3]int{2, 3, 9})
	cross := samples.Graph(5, [3]int{1, 2, 9}, [3]int{2, 3, 9}, [3]int{3, 1, 9}, [3]int{0, 1, 9}, [3]int{1, 4, 9})
	wide := samples.Graph(5, [3]int{0, 1, 9}, [3]int{1, 2, 9}, [3]int{2, 3, 9}, [3]int{3, 1, 9}, [3]int{3, 4, 9})
	either := samples.Graph(4, [3]int{0, 1, 9}, [3]int{1, 3, 9}, [3]int{1, 2, 9}, [3]int{2, 3, 9}, [3]int{3, 1, 9})
	two := samples.Graph(4, [3]int{0, 1, 9}, [3]int{1, 0, 9}, [3]int{1, 2, 9}, [3]int{2, 1, 9}, [3]int{2, 3, 9}, [3]int{3, 2, 9})
	great := samples.Graph(4, [3]int{0, 1, 1}, [3]int{1, 2, most / 4}, [3]int{2, 1, most / 4}, [3]int{2, 3, 1})
	town := samples.Town()
	return []sample{
		{"beside a cycle", away, []int{2, 2, 2, 3, 3}, 0, 3, 3, just(over(3, 3, 4))},
		{"over a link of a cycle", through, []int{2, 3, 1, 2}, 0, 3, 2, just(over(2, 0, 1, 3))},
		{"over a link of a cycle of a greater rate", through, []int{1, 8, 7, 1}, 0, 3, 1, just(over(1, 0, 1, 3))},
		{"over a link of a cycle of a great rate", great, []int{1, most / 4, most/4 - 1, 1}, 0, 3, 1, just(over(1, 0, 1, 3))},
		{"over two links of a cycle", wide, []int{2, 5, 5, 3, 2}, 0, 4, 2, just(over(2, 0, 1, 2, 4))},
		{"over a vertex of a cycle", cross, []int{1, 1, 1, 5, 5}, 0, 4, 5, just(over(5, 3, 4))},
		{"over a vertex of a cycle of a greater rate", cross, []int{8, 8, 8, 1, 1}, 0, 4, 1, just(over(1, 3, 4))},
		{"over one side of a cycle or the other", either, same(5, 1), 0, 3, 1, [][]api.Path{{over(1, 0, 1)}, {over(1, 0, 2, 3)}}},
		{"from one cycle to the next", two, []int{3, 1, 4, 2, 5, 3}, 0, 3, 2, just(over(2, 0, 2, 4))},
		{"from one cycle to the next, the other way", two, []int{1, 3, 2, 4, 3, 5}, 3, 0, 2, just(over(2, 5, 3, 1))},
		{"a town, a cycle over its source", town, []int{4, 2, 0, 0, 1, 1, 1, 0}, 0, 3, 3, just(over(2, 0, 1), over(1, 0, 4, 5))},
		{"a town, cycles side by side", town, []int{5, 3, 0, 2, 1, 1, 3, 0}, 0, 3, 4, nil},
		{"many links of a cycle", ring(2), append(same(8, 5), 3, 3, 3, 3, 3, 3, 3, 0), 0, 7, 3, nil},
	}
}

// ends: cycles over the source and the sink.
func ends() []sample {
	back := samples.Graph(2, [3]int{0, 1, 5}, [3]int{1, 0, 4})
	intoSrc := samples.Graph(3, [3]int{0, 1, 9}, [3]int{1, 0, 9}, [3]int{1, 2, 9})
	atSrc := samples.Graph(4, [3]int{0, 3, 9}, [3]int{3, 0, 9}, [3]int{0, 1, 9}, [3]int{1, 2, 9})
	outOfDst := samples.Graph(3, [3]int{0, 1, 9}, [3]int{1, 2, 9}, [3]int{2, 1, 9})
	atDst := samples.Graph(4, [3]int{0, 1, 9}, [3]int{1, 2, 9}, [3]int{2, 3, 9}, [3]int{3, 2, 9})
	three := samples.Graph(3, [3]int{0, 1, 9}, [3]int{1, 2, 9}, [3]int{2, 0, 9})
	return []sample{
		{"a cycle over both", back, []int{5, 4}, 0, 1, 1, just(over(1, 0))},
		{"a cycle over both, the other way", back, []int{1, 4}, 1, 0, 3, just(over(3, 1))},
		{"a cycle over both, less back", three, []int{4, 4, 1}, 0, 2, 3, just(over(3, 0, 1))},
		{"a cycle over both, over all vertices", ring(1), []int{5, 5, 5, 5, 5, 5, 5, 3}, 0, 7, 2, just(over(2, 0, 1, 2, 3, 4, 5, 6))},
		{"a cycle into the source", intoSrc, []int{5, 2, 3}, 0, 2, 3, just(over(3, 0, 2))},
		{"a cycle at the source", atSrc, []int{4, 4, 2, 2}, 0, 2, 2, just(over(2, 2, 3))},
		{"a cycle out of the sink", outOfDst, []int{3, 5, 2}, 0, 2, 3, just(over(3, 0, 1))},
		{"a cycle at the sink", atDst, []int{2, 2, 4, 4}, 0, 2, 2, just(over(2, 0, 1))},
	}
}

func all() []sample {
	return slices.Concat(zeros(), rounds(), single(), parallel(), parting(), leaving(), ends())
}

// P15.1, by hand.

func TestSamples(t *testing.T) {
	for _, x := range all() {
		if !stream.May(x.g, x.f, x.f, x.src, x.dst) {
			t.Errorf("%s: no flow", x.name)
		}
		if value, err := stream.Value(x.g, x.f, x.src); value != x.value || err != api.OK {
			t.Errorf("%s: the Value is %d, %d, not %d", x.name, value, err, x.value)
		}
		for _, ps := range x.ways {
			if why := fault(x.g, x.f, x.src, x.dst, ps); why != "" {
				t.Errorf("%s: %v: %s", x.name, ps, why)
			}
		}
	}
}

func TestSplit(t *testing.T) {
	for _, x := range all() {
		ps := check(t, x.g, x.f, x.src, x.dst)
		due := x.ways == nil || slices.ContainsFunc(x.ways, func(way []api.Path) bool { return samples.Alike(samples.ByLinks(ps), samples.ByLinks(way)) })
		if !due {
			t.Errorf("%s: Split(%v, %v, %d, %d): %v, want one of %v", x.name, x.g, x.f, x.src, x.dst, ps, x.ways)
		}
	}
}

// P15.1, wrong inputs.

// refused holds Split against the error, with nothing beside it.
func refused(t *testing.T, name string, g api.Graph, f []int, src int, dst int) {
	t.Helper()
	if ps, err := strand.Split(g, f, src, dst); len(ps) != 0 || err != api.ErrStrandForm {
		t.Errorf("%s: Split(%v, %v, %d, %d): %v, %d", name, g, f, src, dst, ps, err)
	}
}

func TestOfGraphsThatMayNotBe(t *testing.T) {
	for _, b := range samples.BadGraphs() {
		for _, f := range [][]int{nil, same(len(b.Graph.Links), 0), same(len(b.Graph.Links), 1), samples.Caps(b.Graph)} {
			for _, ends := range [][2]int{{0, 1}, {1, 0}, {0, 3}, {3, 0}, {0, 0}, {-1, 9}} {
				refused(t, b.Name, b.Graph, f, ends[0], ends[1])
			}
		}
	}
}

func TestOfListsThatDoNotLieWithin(t *testing.T) {
	for _, x := range all() {
		for _, no := range samples.Outside(samples.Caps(x.g)) {
			refused(t, x.name, x.g, no, x.src, x.dst)
		}
		refused(t, x.name, x.g, append(slices.Clone(x.f), 0), x.src, x.dst)
		for i := range x.f {
			for _, off := range []int{-1, x.g.Links[i].Cap + 1} {
				no := slices.Clone(x.f)
				no[i] = off
				refused(t, x.name, x.g, no, x.src, x.dst)
			}
			refused(t, x.name, x.g, x.f[:i], x.src, x.dst)
		}
	}
	// A flow all along, and with a Value above 0, but for one Cap.
	line := samples.Line()
	for i := range line.Links {
		g := samples.Line()
		g.Links[i].Cap = 2
		refused(t, "above a Cap all along", g, same(7, 3), 0, 7)
	}
	refused(t, "below 0 all along", line, same(7, -1), 0, 7)
	refused(t, "below 0 all along, the other way", line, same(7, -1), 7, 0)
}

func TestOfEndsThatMayNotBe(t *testing.T) {
	for _, x := range all() {
		for _, no := range samples.NoVerts(x.g) {
			refused(t, "src is no vertex", x.g, x.f, no, x.dst)
			refused(t, "dst is no vertex", x.g, x.f, x.src, no)
			refused(t, "neither is a vertex", x.g, x.f, no, no)
		}
		for v := range x.g.Verts {
			refused(t, "src is dst", x.g, x.f, v, v)
		}
	}
}

func TestOfWhatIsNoFlow(t *testing.T) {
	ofEnds, between := 0, 0
	for _, x := range all() {
		if x.value > 0 {
			refused(t, "a Value below 0", x.g, x.f, x.dst, x.src)
			ofEnds++
		}
		for i, l := range x.g.Links {
			atEnds := (l.From == x.src || l.From == x.dst) && (l.To == x.src || l.To == x.dst)
			for _, by := range []int{-1, 1} {
				no := slices.Clone(x.f)
				no[i] += by
				if !atEnds {
					refused(t, "a vertex gains or loses", x.g, no, x.src, x.dst)
					between++
				}
			}
		}
	}
	if ofEnds < 30 || between < 300 {
		t.Errorf("only %d and %d", ofEnds, between)
	}
}

// Each vertex of a line in turn, by as little and as much as may be.
func TestOfOneVertexThatGainsOrLoses(t *testing.T) {
	g := samples.Line()
	for v := 1; v < api.MaxVerts-1; v++ {
		for _, x := range [][2]int{{0, 1}, {1, 0}, {2, 3}, {3, 2}, {0, 3}, {3, 0}} {
			f := append(same(v, x[0]), same(api.MaxVerts-1-v, x[1])...)
			refused(t, "a vertex gains or loses", g, f, 0, 7)
			if x[0] < x[1] {
				check(t, g, f, v, 7)
			} else {
				check(t, g, f, 0, v)
			}
		}
	}
}

// P15.1, against the words of the chapter.

// fault tells which of the chapter's words paths break, if any.
func fault(g api.Graph, f []int, src int, dst int, ps []api.Path) string {
	if len(ps) > len(g.Links) {
		return "more paths than links"
	}
	together := 0
	for _, p := range ps {
		if !path.May(g, src, dst, p.Links) {
			return "no path"
		}
		if p.Rate <= 0 {
			return "no Rate above 0"
		}
		together += p.Rate
	}
	loads, err := bundle.Loads(g, ps...)
	if err != api.OK {
		return "no Loads"
	}
	for i, load := range loads {
		if load > f[i] {
			return "above f"
		}
	}
	if value, err := stream.Value(g, f, src); value != together || err != api.OK {
		return "not its Value together"
	}
	return ""
}

// check holds Split against the words of the chapter, and gives what it answers.
func check(t *testing.T, g api.Graph, f []int, src int, dst int) []api.Path {
	t.Helper()
	if !stream.May(g, f, f, src, dst) {
		refused(t, "no flow", g, f, src, dst)
		return nil
	}
	ps, err := strand.Split(g, f, src, dst)
	if err != api.OK {
		t.Errorf("Split(%v, %v, %d, %d): %d", g, f, src, dst, err)
	}
	if why := fault(g, f, src, dst, ps); why != "" {
		t.Errorf("Split(%v, %v, %d, %d): %v: %s", g, f, src, dst, ps, why)
	}
	return ps
}

// The words of the chapter themselves: an answer that breaks one of them is found out.
func TestFault(t *testing.T) {
	// Links 0 and 1 lead on to link 2, link 3 goes back beside it, link 4 straight on, link 5 back to the source.
	g := samples.Graph(3, [3]int{0, 1, 9}, [3]int{0, 1, 9}, [3]int{1, 2, 9}, [3]int{2, 1, 9}, [3]int{0, 2, 9}, [3]int{1, 0, 9})
	f := []int{5, 2, 7, 1, 3, 1}
	for _, x := range []struct {
		name string
		ps   []api.Path
	}{
		{"", []api.Path{over(5, 0, 2), over(1, 1, 2), over(3, 4)}},
		{"", []api.Path{over(4, 0, 2), over(2, 1, 2), over(3, 4)}},
		{"", []api.Path{over(1, 4), over(2, 0, 2), over(2, 1, 2), over(2, 0, 2), over(1, 4), over(1, 4)}},
		{"more paths than links", []api.Path{over(1, 4), over(2, 0, 2), over(2, 1, 2), over(1, 0, 2), over(1, 0, 2), over(1, 4), over(1, 4)}},
		{"no path", []api.Path{over(5, 0, 2), over(1, 1, 2), over(3, 4), over(1)}},
		{"no path", []api.Path{over(5, 0, 2), over(1, 1, 2), over(3, 4), over(1, 5)}},
		{"no path", []api.Path{over(5, 0), over(4, 1, 2)}},
		{"no path", []api.Path{over(5, 0, 2), over(1, 1, 2), over(2, 4), over(1, 4, 3, 2)}},
		{"no path", []api.Path{over(5, 0, 2), over(1, 1, 2), over(2, 4), over(1, 0, 5, 4)}},
		{"no path", []api.Path{over(5, 2, 0), over(1, 1, 2), over(3, 4)}},
		{"no path", []api.Path{over(9, 6)}},
		{"no Rate above 0", []api.Path{over(5, 0, 2), over(1, 1, 2), over(3, 4), over(0, 4)}},
		{"no Rate above 0", []api.Path{over(5, 0, 2), over(2, 1, 2), over(3, 4), over(-1, 4)}},
		{"above f", []api.Path{over(6, 0, 2), over(3, 4)}},
		{"above f", []api.Path{over(5, 0, 2), over(4, 4)}},
		{"above f", []api.Path{over(4, 0, 2), over(2, 0, 2), over(3, 4)}},
		{"no Loads", []api.Path{over(most, 0, 2), over(1, 1, 2)}},
		{"not its Value together", nil},
		{"not its Value together", []api.Path{over(5, 0, 2), over(3, 4)}},
		{"not its Value together", []api.Path{over(5, 0, 2), over(2, 1, 2), over(3, 4)}},
	} {
		if got := fault(g, f, 0, 2, x.ps); got != x.name {
			t.Errorf("%v: %q, want %q", x.ps, got, x.name)
		}
	}
}

// goesRound tells whether something goes round in what paths leave.
func goesRound(g api.Graph, f []int, ps []api.Path) bool {
	loads, _ := bundle.Loads(g, ps...)
	return !slices.Equal(loads, f)
}

func TestBetweenAllVertices(t *testing.T) {
	for _, x := range all() {
		for src := -1; src <= x.g.Verts; src++ {
			for dst := -1; dst <= x.g.Verts; dst++ {
				check(t, x.g, x.f, src, dst)
			}
		}
	}
}

func TestAllSmallLists(t *testing.T) {
	several, left := 0, 0
	for _, g := range []api.Graph{
		samples.Graph(2, [3]int{0, 1, 2}, [3]int{1, 0, 2}, [3]int{0, 1, 1}, [3]int{1, 0, 0}),
		samples.Graph(3, [3]int{0, 1, 2}, [3]int{1, 2, 2}, [3]int{2, 0, 2}, [3]int{1, 0, 2}),
		samples.Graph(3, [3]int{0, 1, 2}, [3]int{1, 0, 2}, [3]int{1, 2, 2}, [3]int{2, 1, 2}, [3]int{2, 0, 2}),
		samples.Graph(3, [3]int{0, 1, 2}, [3]int{0, 1, 2}, [3]int{1, 2, 2}, [3]int{1, 2, 2}, [3]int{0, 2, 2}),
		samples.Graph(4, [3]int{3, 2, 2}, [3]int{2, 1, 2}, [3]int{1, 3, 2}, [3]int{2, 0, 2}, [3]int{0, 3, 2}),
	} {
		for _, f := range samples.Lists([]int{-1, 0, 1, 2, 3}, 5) {
			for src := range g.Verts {
				for dst := range g.Verts {
					ps := check(t, g, f, src, dst)
					if len(ps) > 1 {
						several++
					}
					if len(ps) > 0 && goesRound(g, f, ps) {
						left++
					}
				}
			}
		}
	}
	if several < 80 || left < 150 {
		t.Errorf("only %d of several paths, %d leave a cycle", several, left)
	}
}

// All graphs of four vertices and up to four links, which take unlike rates, each with its greatest flow: as many paths as its least cut takes.
func TestAllSmallGraphs(t *testing.T) {
	for _, g := range samples.Small(4, 1, 2, 3) {
		caps := samples.Caps(g)
		f, _, _ := push.Push(g, caps, 0, 3, most)
		ps := check(t, g, f, 0, 3)
		least := samples.LeastCut(g, caps, 0, 3)
		if least > 0 && !bundle.May(g, 0, 3, least, ps...) || least == 0 && len(ps) > 0 {
			t.Errorf("Split(%v, %v, 0, 3): %v, not %d together", g, f, ps, least)
		}
		check(t, g, caps, 0, 3)
	}
}

func TestWhateverFlows(t *testing.T) {
	r := rand.New(rand.NewSource(15))
	none, several, left, many := 0, 0, 0, 0
	for range 20000 {
		g := samples.Drawn(r.Intn, []int{3, 9, 1000, most / api.MaxLinks}[r.Intn(4)])
		src := r.Intn(g.Verts)
		dst := (src + 1 + r.Intn(g.Verts-1)) % g.Verts
		f := samples.DrawnFlow(r.Intn, g, samples.Caps(g), src, dst)
		ps := check(t, g, f, src, dst)
		if len(ps) == 0 {
			none++
		}
		if len(ps) > 1 {
			several++
		}
		if len(ps) > 3 {
			many++
		}
		if len(ps) > 0 && goesRound(g, f, ps) {
			left++
		}
	}
	if none < 1000 || several < 1000 || left < 1000 || many < 100 {
		t.Errorf("only %d of no path, %d of several, %d of many, %d leave a cycle", none, several, many, left)
	}
}

// Flows of which a link or two have turned, and lists of all kinds.
func TestWhateverLists(t *testing.T) {
	r := rand.New(rand.NewSource(151))
	flows, no := 0, 0
	for range 20000 {
		g := samples.Drawn(r.Intn, []int{2, 3, 9, most / api.MaxLinks}[r.Intn(4)])
		src, dst := r.Intn(g.Verts+2)-1, r.Intn(g.Verts+2)-1
		f := samples.DrawnBelow(r.Intn, samples.Caps(g))
		if src >= 0 && src < g.Verts && dst >= 0 && dst < g.Verts && src != dst && r.Intn(3) > 0 {
			f = samples.DrawnFlow(r.Intn, g, samples.Caps(g), src, dst)
			for i := range f {
				if r.Intn(12) == 0 {
					f[i] += r.Intn(5) - 2
				}
			}
		}
		check(t, g, f, src, dst)
		if stream.May(g, f, f, src, dst) {
			flows++
		} else {
			no++
		}
	}
	if flows < 2000 || no < 2000 {
		t.Errorf("only %d flows, %d none", flows, no)
	}
}

// R4: what is handed in is not changed, nor its spare room, nor kept; answers are new memory.

func TestWhatIsHandedInIsNotChanged(t *testing.T) {
	untouched := func(g api.Graph, f []int, src int, dst int) {
		t.Helper()
		links, wholeLinks := samples.Roomy(g.Links, api.Link{From: -7, To: -8, Cap: -9})
		f, wholeList := samples.Roomy(f, -7)
		wasLinks, wasList := slices.Clone(wholeLinks), slices.Clone(wholeList)
		strand.Split(api.Graph{Verts: g.Verts, Links: links}, f, src, dst)
		if !slices.Equal(wholeLinks, wasLinks) || !slices.Equal(wholeList, wasList) {
			t.Errorf("changed: %v, %v", wholeLinks, wholeList)
		}
	}
	for _, x := range all() {
		untouched(x.g, x.f, x.src, x.dst)
		untouched(x.g, x.f, x.dst, x.src)
		untouched(x.g, x.f, x.src, x.src)
		for _, no := range samples.Outside(samples.Caps(x.g)) {
			untouched(x.g, no, x.src, x.dst)
		}
	}
	for _, b := range samples.BadGraphs() {
		untouched(b.Graph, samples.Caps(b.Graph), 0, 1)
	}
}

func TestAnswersAreNewMemory(t *testing.T) {
	for _, x := range all() {
		links, f := slices.Clone(x.g.Links), slices.Clone(x.f)
		g := api.Graph{Verts: x.g.Verts, Links: links}
		one, _ := strand.Split(g, f, x.src, x.dst)
		was := samples.Copied(one)
		two, _ := strand.Split(g, f, x.src, x.dst)
		samples.SpoilPaths(one)
		three, err := strand.Split(g, f, x.src, x.dst)
		if !samples.Alike(two, was) || !samples.Alike(three, was) || err != api.OK {
			t.Errorf("%s: %v, then %v, %v, %d", x.name, was, two, three, err)
		}
		if !slices.Equal(links, x.g.Links) || !slices.Equal(f, x.f) {
			t.Errorf("%s: the answer is %v, %v", x.name, links, f)
		}
	}
}

func TestPathsOfOneAnswerShareNoLinks(t *testing.T) {
	for _, x := range all() {
		ps, _ := strand.Split(x.g, x.f, x.src, x.dst)
		was := samples.Copied(ps)
		for i := range ps {
			samples.Spoil(ps[i].Links)
			if !samples.Alike(ps[i+1:], was[i+1:]) {
				t.Errorf("%s: path %d shares links with one of %v", x.name, i, ps[i+1:])
			}
			ps[i].Links = slices.Clone(was[i].Links)
		}
		for i := len(ps) - 1; i >= 0; i-- {
			samples.Spoil(ps[i].Links)
			if !samples.Alike(ps[:i], was[:i]) {
				t.Errorf("%s: path %d shares links with one of %v", x.name, i, ps[:i])
			}
		}
	}
}

func TestWhatIsHandedInIsNotKept(t *testing.T) {
	for _, x := range all() {
		g := api.Graph{Verts: x.g.Verts, Links: slices.Clone(x.g.Links)}
		f := slices.Clone(x.f)
		ps, _ := strand.Split(g, f, x.src, x.dst)
		was := samples.Copied(ps)
		for i := range g.Links {
			g.Links[i] = api.Link{From: 1, To: 0, Cap: 2}
			f[i] = 1
		}
		if !samples.Alike(ps, was) {
			t.Errorf("%s: the answer turned: %v", x.name, ps)
		}
		check(t, g, f, 1, 0)
		check(t, x.g, x.f, x.src, x.dst)
	}
}

// R5: the same answer each time, from several goroutines at one time.

func TestFromSeveralGoroutines(t *testing.T) {
	g, f := samples.Town(), []int{5, 3, 0, 2, 1, 1, 3, 0}
	want, _ := strand.Split(g, f, 0, 3)
	var all sync.WaitGroup
	for range 8 {
		all.Go(func() {
			for range 200 {
				ps, err := strand.Split(g, f, 0, 3)
				none, err2 := strand.Split(g, f, 3, 0)
				if !samples.Alike(ps, want) || err != api.OK || len(none) != 0 || err2 != api.ErrStrandForm {
					t.Errorf("%v, %d; %v, %d", ps, err, none, err2)
				}
			}
		})
	}
	all.Wait()
}
