package samples_test

import (
	"math/rand"
	"slices"
	"testing"

	"tollbar/api"
	"tollbar/graph"
	"tollbar/samples"
	"tollbar/stream"
	"tollbar/within"
)

func TestGraphs(t *testing.T) {
	for _, g := range []api.Graph{samples.Town(), samples.Full(), samples.Line(), samples.Sides(0, 1), samples.Sides(1, 0)} {
		if !graph.May(g) || !within.Caps(g, samples.Caps(g)) {
			t.Errorf("%v may not be", g)
		}
	}
	for _, b := range samples.BadGraphs() {
		if graph.May(b.Graph) {
			t.Errorf("%s: %v may be", b.Name, b.Graph)
		}
	}
}

func TestLeastCut(t *testing.T) {
	line, town := samples.Line(), samples.Town()
	one := samples.Graph(2, [3]int{0, 1, api.MaxRate})
	for _, x := range []struct {
		g    api.Graph
		caps []int
		src  int
		dst  int
		want int
	}{
		{samples.Graph(2), nil, 0, 1, 0},
		{one, []int{api.MaxRate}, 0, 1, api.MaxRate},
		{one, []int{4}, 0, 1, 4},
		{one, []int{4}, 1, 0, 0},
		{line, samples.Caps(line), 0, 7, 3},
		{line, []int{3, 3, 3, 1, 3, 3, 2}, 0, 7, 1},
		{line, []int{3, 3, 3, 1, 3, 3, 2}, 4, 7, 2},
		{town, samples.Caps(town), 0, 3, 7},
		{town, samples.Caps(town), 2, 0, 4},
		{town, samples.Caps(town), 3, 2, 1},
	} {
		if got := samples.LeastCut(x.g, x.caps, x.src, x.dst); got != x.want {
			t.Errorf("LeastCut(%v, %v, %d, %d): %d, want %d", x.g, x.caps, x.src, x.dst, got, x.want)
		}
	}
}

func TestOutside(t *testing.T) {
	for _, caps := range [][]int{nil, {0}, {5, 0, api.MaxRate}, samples.Caps(samples.Town())} {
		for _, list := range samples.Outside(caps) {
			if within.Rates(caps, list) {
				t.Errorf("%v lies within %v", list, caps)
			}
		}
	}
}

func TestNoVerts(t *testing.T) {
	for _, g := range []api.Graph{samples.Graph(2), samples.Town(), samples.Full()} {
		for _, no := range samples.NoVerts(g) {
			if within.Verts(g, no) {
				t.Errorf("%d is a vertex of %v", no, g)
			}
		}
	}
}

func TestMisfits(t *testing.T) {
	all := samples.BadMisfits()
	for _, g := range []api.Graph{samples.Graph(2), samples.Town(), samples.Full()} {
		all = append(all, samples.Misfits(g, samples.Caps(g))...)
		all = append(all, samples.Misfits(g, make([]int, len(g.Links)))...)
	}
	for _, m := range all {
		if graph.May(m.Graph) && within.Caps(m.Graph, m.Caps) && within.Rates(m.Caps, m.List) {
			t.Errorf("%s: %v, %v and %v go together", m.Name, m.Graph, m.Caps, m.List)
		}
	}
}

func TestLists(t *testing.T) {
	want := [][]int{nil, {3}, {7}, {3, 3}, {3, 7}, {7, 3}, {7, 7}}
	if got := samples.Lists([]int{3, 7}, 2); !slices.EqualFunc(got, want, slices.Equal) {
		t.Errorf("%v", got)
	}
}

func TestSmall(t *testing.T) {
	// Two vertices of four: twelve ways for each link.
	all := samples.Small(2, 5, 0)
	if len(all) != 1+12+12*12 {
		t.Errorf("%d graphs", len(all))
	}
	same := func(a api.Graph, b api.Graph) bool { return a.Verts == b.Verts && slices.Equal(a.Links, b.Links) }
	for i, g := range all {
		if !graph.May(g) || slices.ContainsFunc(all[:i], func(one api.Graph) bool { return same(one, g) }) {
			t.Errorf("%v may not be, or comes twice", g)
		}
		for at, c := range samples.Caps(g) {
			if c != []int{5, 0}[at] {
				t.Errorf("%v, link %d", g, at)
			}
		}
	}
}

func TestDrawn(t *testing.T) {
	r := rand.New(rand.NewSource(1))
	for range 1000 {
		for _, size := range []int{1, 6, api.MaxRate / api.MaxLinks} {
			if g := samples.Drawn(r.Intn, size); !graph.May(g) {
				t.Errorf("%v may not be", g)
			}
		}
	}
}

func TestDrawnBelow(t *testing.T) {
	r := rand.New(rand.NewSource(2))
	caps := []int{0, 1, 5, api.MaxRate}
	inside, outside := 0, 0
	for range 1000 {
		if list := samples.DrawnBelow(r.Intn, caps); within.Rates(caps, list) {
			inside++
		} else if outside++; len(list) != len(caps) {
			t.Errorf("%v is not as long as %v", list, caps)
		}
	}
	if inside < 900 || outside == 0 {
		t.Errorf("%d within, %d not", inside, outside)
	}
}

func TestDrawnFlow(t *testing.T) {
	r := rand.New(rand.NewSource(3))
	flows, full := 0, 0
	for range 3000 {
		g := samples.Drawn(r.Intn, []int{1, 6, api.MaxRate / api.MaxLinks}[r.Intn(3)])
		caps := samples.Caps(g)
		f := samples.DrawnFlow(r.Intn, g, caps, 0, 1)
		if !stream.May(g, caps, f, 0, 1) {
			t.Fatalf("%v is no flow in %v", f, g)
		}
		value, _ := stream.Value(g, f, 0)
		if value > 0 {
			flows++
		}
		for i, c := range caps {
			if value > 0 && c > 0 && f[i] == c {
				full++
				break
			}
		}
	}
	if flows < 500 || full < 200 {
		t.Errorf("only %d of a Value above 0, %d of them with a full link", flows, full)
	}
}

func TestRoomyAndSpoil(t *testing.T) {
	list, whole := samples.Roomy([]int{1, 2}, 7)
	if !slices.Equal(list, []int{1, 2}) || !slices.Equal(whole, []int{1, 2, 7, 7, 7}) {
		t.Errorf("%v of %v", list, whole)
	}
	samples.Spoil(list)
	if !slices.Equal(whole, []int{-5, -5, -5, -5, -5}) {
		t.Errorf("spoilt: %v", whole)
	}
}

// over is a path over links.
func over(rate int, links ...int) api.Path {
	return api.Path{Rate: rate, Links: links}
}

func TestAlike(t *testing.T) {
	ps := []api.Path{over(2, 0, 1), over(3, 2)}
	if !samples.Alike(ps, []api.Path{over(2, 0, 1), over(3, 2)}) || !samples.Alike(nil, []api.Path{}) {
		t.Errorf("unlike")
	}
	for _, other := range [][]api.Path{nil, ps[:1], {over(3, 2), over(2, 0, 1)}, {over(2, 0, 1), over(4, 2)}, {over(2, 0, 1), over(3, 3)}, {over(2, 0), over(3, 2)}, {over(2, 0, 1), over(3, 2), over(3, 2)}} {
		if samples.Alike(ps, other) || samples.Alike(other, ps) {
			t.Errorf("%v and %v are alike", ps, other)
		}
	}
}

func TestByLinks(t *testing.T) {
	for _, x := range [][2][]api.Path{
		{nil, nil},
		{{over(1, 2), over(5, 0, 3)}, {over(5, 0, 3), over(1, 2)}},
		{{over(1, 2), over(5, 0, 3), over(4, 0), over(7, 2), over(6, 0, 3)}, {over(4, 0), over(11, 0, 3), over(8, 2)}},
	} {
		was := samples.Copied(x[0])
		if got := samples.ByLinks(x[0]); !samples.Alike(got, x[1]) || !samples.Alike(x[0], was) {
			t.Errorf("ByLinks(%v): %v, want %v", was, got, x[1])
		}
	}
}

func TestCopiedAndSpoilPaths(t *testing.T) {
	ps := append(make([]api.Path, 0, 3), over(2, 0, 1), over(3, 2))
	links, was := ps[0].Links, samples.Copied(ps)
	if !samples.Alike(was, ps) {
		t.Errorf("copied: %v", was)
	}
	samples.SpoilPaths(ps)
	spoilt := over(-5, -5)
	if !samples.Alike(ps[:3], []api.Path{spoilt, spoilt, spoilt}) || !slices.Equal(links, []int{-5, -5}) {
		t.Errorf("spoilt: %v, %v", ps[:3], links)
	}
	if !samples.Alike(was, []api.Path{over(2, 0, 1), over(3, 2)}) {
		t.Errorf("the copy turned: %v", was)
	}
}
