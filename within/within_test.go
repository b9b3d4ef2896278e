package within_test

import (
	"math"
	"slices"
	"testing"

	"tollbar/api"
	"tollbar/within"
)

// ways makes a graph of links from 0 to 1 with these Caps.
func ways(caps ...int) api.Graph {
	g := api.Graph{Verts: 2}
	for _, c := range caps {
		g.Links = append(g.Links, api.Link{From: 0, To: 1, Cap: c})
	}
	return g
}

func TestNumbers(t *testing.T) {
	for _, g := range []api.Graph{ways(), ways(1), ways(0, 0, 0), {Verts: api.MaxVerts, Links: make([]api.Link, api.MaxLinks)}} {
		for _, x := range []struct {
			name string
			ask  func(api.Graph, ...int) bool
			many int
		}{
			{"Verts", within.Verts, g.Verts},
			{"Links", within.Links, len(g.Links)},
			{"Arcs", within.Arcs, 2 * len(g.Links)},
		} {
			var all []int
			if !x.ask(g) {
				t.Errorf("%s of none, %d", x.name, x.many)
			}
			for n := range x.many {
				all = append(all, n)
				if !x.ask(g, n) || !x.ask(g, all...) {
					t.Errorf("%s(%d), %d", x.name, n, x.many)
				}
			}
			for _, no := range []int{math.MinInt, -1, x.many, x.many + 1, math.MaxInt} {
				if x.ask(g, no) || x.ask(g, append([]int{no}, all...)...) || x.ask(g, append(slices.Clone(all), no)...) {
					t.Errorf("%s(%d), %d", x.name, no, x.many)
				}
			}
		}
	}
}

func TestRates(t *testing.T) {
	for _, x := range []struct {
		caps []int
		f    []int
		want bool
	}{
		{nil, nil, true},
		{nil, []int{}, true},
		{nil, []int{0}, false},
		{[]int{5, 0}, []int{5, 0}, true},
		{[]int{5, 0}, []int{0, 0}, true},
		{[]int{5, 0}, []int{6, 0}, false},
		{[]int{5, 0}, []int{5, 1}, false},
		{[]int{5, 0}, []int{5, -1}, false},
		{[]int{5, 0}, []int{-1, 0}, false},
		{[]int{5, 0}, []int{5}, false},
		{[]int{5, 0}, []int{5, 0, 0}, false},
		{[]int{api.MaxRate}, []int{api.MaxRate}, true},
		{[]int{api.MaxRate}, []int{api.MaxRate + 1}, false},
		{[]int{api.MaxRate}, []int{math.MinInt}, false},
	} {
		caps, f := slices.Clone(x.caps), slices.Clone(x.f)
		if got := within.Rates(x.caps, x.f); got != x.want {
			t.Errorf("Rates(%v, %v): %t", x.caps, x.f, got)
		}
		if !slices.Equal(x.caps, caps) || !slices.Equal(x.f, f) {
			t.Errorf("changed: %v, %v", x.caps, x.f)
		}
	}
}

func TestCaps(t *testing.T) {
	const most = api.MaxRate
	for _, x := range []struct {
		g    api.Graph
		caps []int
		want bool
	}{
		{ways(), nil, true},
		{ways(), []int{}, true},
		{ways(), []int{0}, false},
		{ways(5), nil, false},
		{ways(5), []int{0}, true},
		{ways(5), []int{4}, true},
		{ways(5), []int{5}, true},
		{ways(5), []int{6}, false},
		{ways(5), []int{-1}, false},
		{ways(5), []int{math.MinInt}, false},
		{ways(5), []int{math.MaxInt}, false},
		{ways(5), []int{5, 0}, false},
		{ways(0, 7), []int{0, 7}, true},
		{ways(0, 7), []int{0, 0}, true},
		{ways(0, 7), []int{7, 0}, false},
		{ways(0, 7), []int{1, 7}, false},
		{ways(0, 7), []int{0, 8}, false},
		{ways(0, 7), []int{0}, false},
		{ways(0, 7), []int{0, 7, 0}, false},
		{ways(most), []int{most}, true},
		{ways(most), []int{most + 1}, false},
		{ways(make([]int, api.MaxLinks)...), make([]int, api.MaxLinks), true},
		{ways(make([]int, api.MaxLinks)...), append(make([]int, api.MaxLinks-1), 1), false},
	} {
		links, caps := slices.Clone(x.g.Links), slices.Clone(x.caps)
		if got := within.Caps(x.g, x.caps); got != x.want {
			t.Errorf("Caps(%v, %v): %t", x.g, x.caps, got)
		}
		if !slices.Equal(x.g.Links, links) || !slices.Equal(x.caps, caps) {
			t.Errorf("changed: %v, %v", x.g, x.caps)
		}
	}
}
