package within_test

import (
	"math"
	"slices"
	"testing"

	"tollbar/api"
	"tollbar/within"
)

// ways makes a graph of links from 0 to 1 with these Caps.
func ways(caps ...int) api.Graph {
	g := api.Graph{Verts: 2}
	for _, c := range caps {
		g.Links = append(g.Links, api.Link{From: 0, To: 1, Cap: c})
	}
	return g
}

func TestCaps(t *testing.T) {
	const most = api.MaxRate
	for _, x := range []struct {
		g    api.Graph
		caps []int
		want bool
	}{
		{ways(), nil, true},
		{ways(), []int{}, true},
		{ways(), []int{0}, false},
		{ways(5), nil, false},
		{ways(5), []int{0}, true},
		{ways(5), []int{4}, true},
		{ways(5), []int{5}, true},
		{ways(5), []int{6}, false},
		{ways(5), []int{-1}, false},
		{ways(5), []int{math.MinInt}, false},
		{ways(5), []int{math.MaxInt}, false},
		{ways(5), []int{5, 0}, false},
		{ways(0, 7), []int{0, 7}, true},
		{ways(0, 7), []int{0, 0}, true},
		{ways(0, 7), []int{7, 0}, false},
		{ways(0, 7), []int{1, 7}, false},
		{ways(0, 7), []int{0, 8}, false},
		{ways(0, 7), []int{0}, false},
		{ways(0, 7), []int{0, 7, 0}, false},
		{ways(most), []int{most}, true},
		{ways(most), []int{most + 1}, false},
		{ways(make([]int, api.MaxLinks)...), make([]int, api.MaxLinks), true},
		{ways(make([]int, api.MaxLinks)...), append(make([]int, api.MaxLinks-1), 1), false},
	} {
		links, caps := slices.Clone(x.g.Links), slices.Clone(x.caps)
		if got := within.Caps(x.g, x.caps); got != x.want {
			t.Errorf("Caps(%v, %v): %t", x.g, x.caps, got)
		}
		if !slices.Equal(x.g.Links, links) || !slices.Equal(x.caps, caps) {
			t.Errorf("changed: %v, %v", x.g, x.caps)
		}
	}
}
