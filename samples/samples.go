// Package samples makes what the tests of several layers hand in: graphs that may be and that may not, caps, lists within them and not, lists with spare room; it holds paths that they get against others, and writes over them.
package samples

import (
	"math"
	"slices"

	"tollbar/api"
)

// Graph makes a graph of links that are told as From, To, Cap.
func Graph(verts int, links ...[3]int) api.Graph {
	g := api.Graph{Verts: verts}
	for _, l := range links {
		g.Links = append(g.Links, api.Link{From: l[0], To: l[1], Cap: l[2]})
	}
	return g
}

// Town: links 0 and 3 lie side by side, 6 goes back beside them; 7 takes nothing.
func Town() api.Graph {
	return Graph(4, [3]int{0, 1, 5}, [3]int{1, 3, 6}, [3]int{3, 0, 7}, [3]int{0, 1, 2}, [3]int{1, 2, 1}, [3]int{2, 3, 4}, [3]int{1, 0, 3}, [3]int{0, 3, 0})
}

// Full: as many vertices and links as may be, MaxRate together; link i goes from its vertex to the next one, or the one behind that.
func Full() api.Graph {
	g := api.Graph{Verts: api.MaxVerts}
	for i := range api.MaxLinks {
		v := i % api.MaxVerts
		g.Links = append(g.Links, api.Link{From: v, To: (v + 1 + i/api.MaxVerts) % api.MaxVerts, Cap: api.MaxRate / api.MaxLinks})
	}
	return g
}

// Line: as many vertices as may be, one behind the other, each link taking 3.
func Line() api.Graph {
	g := api.Graph{Verts: api.MaxVerts}
	for v := range api.MaxVerts - 1 {
		g.Links = append(g.Links, api.Link{From: v, To: v + 1, Cap: 3})
	}
	return g
}

// Sides: as many links as may be from one vertex to another, of Caps 1, 2, 3 and so on.
func Sides(from int, to int) api.Graph {
	g := api.Graph{Verts: 2}
	for i := range api.MaxLinks {
		g.Links = append(g.Links, api.Link{From: from, To: to, Cap: i + 1})
	}
	return g
}

// Caps gives the Caps of the graph.
func Caps(g api.Graph) []int {
	var caps []int
	for _, l := range g.Links {
		caps = append(caps, l.Cap)
	}
	return caps
}

// LeastCut gives the least that the links take which leave vertices with src, without dst: just so much can go, if they are unlike vertices.
func LeastCut(g api.Graph, caps []int, src int, dst int) int {
	least := math.MaxInt
	for side := range 1 << g.Verts {
		if side>>src&1 == 0 || side>>dst&1 == 1 {
			continue
		}
		sum := 0
		for i, l := range g.Links {
			if side>>l.From&1 == 1 && side>>l.To&1 == 0 {
				sum += caps[i]
			}
		}
		least = min(least, sum)
	}
	return least
}

// Bad is a graph that may not be, and why.
type Bad struct {
	Name  string
	Graph api.Graph
}

// BadGraphs: Town with one thing turned, for each of layer 4's reasons, and graphs that are little else.
func BadGraphs() []Bad {
	const most = api.MaxRate
	bads := []Bad{
		{"nothing", api.Graph{}},
		{"an empty list", api.Graph{Links: []api.Link{}}},
		{"one vertex", Graph(1)},
		{"one above MaxVerts", Graph(api.MaxVerts + 1)},
		{"only a link from 0 to 0", Graph(2, [3]int{0, 0, 1})},
		{"MaxRate four times, 0 in an int", Graph(2, [3]int{0, 1, most}, [3]int{0, 1, most}, [3]int{0, 1, most}, [3]int{0, 1, most})},
	}
	turn := func(name string, how func(g *api.Graph)) {
		g := Town()
		how(&g)
		bads = append(bads, Bad{name, g})
	}
	for _, verts := range []int{math.MinInt, -1, 0, 1, api.MaxVerts + 1, math.MaxInt} {
		turn("Verts", func(g *api.Graph) { g.Verts = verts })
	}
	for _, n := range []int{api.MaxLinks + 1, 2 * api.MaxLinks} {
		turn("too many links", func(g *api.Graph) { g.Links = slices.Repeat(g.Links, 4)[:n] })
	}
	for _, at := range []int{0, 4, 7} {
		for _, v := range []int{math.MinInt, -1, 4, math.MaxInt} {
			turn("From is no vertex", func(g *api.Graph) { g.Links[at].From = v })
			turn("To is no vertex", func(g *api.Graph) { g.Links[at].To = v })
		}
		turn("From and To alike", func(g *api.Graph) { g.Links[at].To = g.Links[at].From })
		for _, c := range []int{math.MinInt, -1, most + 1, math.MaxInt} {
			turn("Cap is no rate", func(g *api.Graph) { g.Links[at].Cap = c })
		}
		turn("above MaxRate together", func(g *api.Graph) { g.Links[at].Cap = most })
	}
	return bads
}

// Outside: lists that do not lie within caps.
func Outside(caps []int) [][]int {
	all := [][]int{append(slices.Clone(caps), 0), append(slices.Clone(caps), -1), make([]int, len(caps)+1), make([]int, 100000)}
	if len(caps) == 0 {
		return all
	}
	all = append(all, nil, []int{}, slices.Clone(caps[1:]), make([]int, len(caps)-1))
	for i, c := range caps {
		for _, no := range []int{math.MinInt, -api.MaxRate, -1, c + 1, api.MaxRate + 1, math.MaxInt} {
			list := slices.Clone(caps)
			list[i] = no
			all = append(all, list)
		}
	}
	return all
}

// NoVerts: numbers that are no vertices of the graph.
func NoVerts(g api.Graph) []int {
	return []int{math.MinInt, -g.Verts, -1, g.Verts, g.Verts + 1, math.MaxInt}
}

// Misfit is a graph, caps and a list that do not go together, and why.
type Misfit struct {
	Name  string
	Graph api.Graph
	Caps  []int
	List  []int
}

// Misfits: caps that are none of the graph, and lists that do not lie within the caps of it that are handed in.
func Misfits(g api.Graph, caps []int) []Misfit {
	var all []Misfit
	for _, no := range Outside(Caps(g)) {
		all = append(all, Misfit{"no caps", g, no, make([]int, len(g.Links))}, Misfit{"no caps, nor within them", g, no, no})
	}
	for _, no := range Outside(caps) {
		all = append(all, Misfit{"not within caps", g, caps, no})
	}
	return all
}

// BadMisfits: graphs that may not be, with caps and lists of which some would be theirs.
func BadMisfits() []Misfit {
	var all []Misfit
	for _, b := range BadGraphs() {
		lists := [][]int{nil, make([]int, len(b.Graph.Links)), Caps(b.Graph)}
		for _, caps := range lists {
			for _, f := range lists {
				all = append(all, Misfit{b.Name, b.Graph, caps, f})
			}
		}
	}
	return all
}

// Lists gives all lists of up to so many of these numbers, the shorter ones first.
func Lists(numbers []int, length int) [][]int {
	all := [][]int{nil}
	for at := 0; at < len(all); at++ {
		for i := 0; i < len(numbers) && len(all[at]) < length; i++ {
			all = append(all, append(slices.Clone(all[at]), numbers[i]))
		}
	}
	return all
}

// Small gives all graphs of four vertices and up to so many links, the fewer ones first; their Caps are these in turn.
func Small(links int, caps ...int) []api.Graph {
	var kinds []int
	for n := range 16 {
		if n/4 != n%4 {
			kinds = append(kinds, n)
		}
	}
	var all []api.Graph
	for _, list := range Lists(kinds, links) {
		g := api.Graph{Verts: 4}
		for i, n := range list {
			g.Links = append(g.Links, api.Link{From: n / 4, To: n % 4, Cap: caps[i%len(caps)]})
		}
		all = append(all, g)
	}
	return all
}

// Drawn makes a graph that may be of what draw picks below the number that it is given; its Caps are below size, at most MaxRate by MaxLinks.
func Drawn(draw func(below int) int, size int) api.Graph {
	g := api.Graph{Verts: 2 + draw(api.MaxVerts-1)}
	for range draw(api.MaxLinks + 1) {
		from := draw(g.Verts)
		g.Links = append(g.Links, api.Link{From: from, To: (from + 1 + draw(g.Verts-1)) % g.Verts, Cap: draw(size)})
	}
	return g
}

// DrawnBelow makes a list of what draw picks below the number that it is given: of each cap itself or at most it; now and then a number is out of its bounds.
func DrawnBelow(draw func(below int) int, caps []int) []int {
	list := slices.Clone(caps)
	for i, c := range caps {
		if c >= 0 && draw(2) == 0 {
			list[i] = draw(c + 1)
		}
		if draw(200) == 0 {
			list[i] = []int{-1, c + 1}[draw(2)]
		}
	}
	return list
}

// DrawnFlow makes a flow from src to dst of what draw picks below the number that it is given, if caps are of the graph: over ways of arcs, some of them back, some coming to a vertex twice, and over rounds.
func DrawnFlow(draw func(below int) int, g api.Graph, caps []int, src int, dst int) []int {
	f := make([]int, len(caps))
	for range draw(9) {
		from, to := src, dst
		if draw(4) == 0 {
			from = draw(g.Verts)
			to = from
		}
		wander(draw, g, caps, f, from, to)
	}
	return f
}

// wander moves a rate over arcs, one behind the other; f stays as it was, if they do not come to that end.
func wander(draw func(below int) int, g api.Graph, caps []int, f []int, from int, to int) {
	if len(caps) == 0 {
		return
	}
	moved, at := slices.Clone(f), from
	by := 1 + draw(max(1, caps[draw(len(caps))]))
	for range 8 * len(caps) {
		i, more := draw(len(caps)), by
		tail, head := g.Links[i].From, g.Links[i].To
		if draw(3) == 0 {
			tail, head, more = head, tail, -by
		}
		if tail != at || moved[i]+more < 0 || moved[i]+more > caps[i] {
			continue
		}
		moved[i] += more
		at = head
		if at == to && draw(4) > 0 {
			copy(f, moved)
			return
		}
	}
}

// Alike tells whether paths are those, one behind the other.
func Alike(a []api.Path, b []api.Path) bool {
	return slices.EqualFunc(a, b, func(a api.Path, b api.Path) bool {
		return a.Rate == b.Rate && slices.Equal(a.Links, b.Links)
	})
}

// ByLinks gives the paths in the row of their links, those over the same links as one.
func ByLinks(ps []api.Path) []api.Path {
	var row []api.Path
	for _, p := range ps {
		at, there := slices.BinarySearchFunc(row, p, func(a api.Path, b api.Path) int { return slices.Compare(a.Links, b.Links) })
		if there {
			row[at].Rate += p.Rate
		} else {
			row = slices.Insert(row, at, api.Path{Rate: p.Rate, Links: slices.Clone(p.Links)})
		}
	}
	return row
}

// Copied gives the paths in memory of their own.
func Copied(ps []api.Path) []api.Path {
	var all []api.Path
	for _, p := range ps {
		all = append(all, api.Path{Rate: p.Rate, Links: slices.Clone(p.Links)})
	}
	return all
}

// Roomy gives a list with spare room that holds that value, and the whole of it.
func Roomy[T any](list []T, spare T) ([]T, []T) {
	whole := append(slices.Clone(list), spare, spare, spare)
	return whole[:len(list)], whole
}

// Spoil writes over a list and its spare room.
func Spoil(list []int) {
	for i := range list[:cap(list)] {
		list[:cap(list)][i] = -5
	}
}

// SpoilPaths writes over paths, their links, and the spare room of both.
func SpoilPaths(ps []api.Path) {
	for _, p := range ps {
		Spoil(p.Links)
	}
	for i := range ps[:cap(ps)] {
		ps[:cap(ps)][i] = api.Path{Rate: -5, Links: []int{-5}}
	}
}
