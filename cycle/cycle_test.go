package cycle_test

import (
	"math/rand"
	"slices"
	"sync"
	"testing"

	"tollbar/api"
	"tollbar/cycle"
	"tollbar/samples"
	"tollbar/stream"
)

const most = api.MaxRate

// sample is a list, all cycles in it, each from its least link on, and all that Cancel may answer.
type sample struct {
	name   string
	g      api.Graph
	f      []int
	cycles [][]int
	rests  [][]int
}

// same gives as many of one number.
func same(n int, x int) []int {
	return slices.Repeat([]int{x}, n)
}

// lists are several of them.
func lists(all ...[]int) [][]int {
	return all
}

// ring: links from each vertex to the one behind it, from the last one to the first; as many turns of that, side by side.
func ring(verts int, turns int) api.Graph {
	g := api.Graph{Verts: verts}
	for range turns {
		for v := range verts {
			g.Links = append(g.Links, api.Link{From: v, To: (v + 1) % verts, Cap: 9})
		}
	}
	return g
}

// none: lists without a cycle, that stay as they are.
func none() []sample {
	line, town, full := samples.Line(), samples.Town(), samples.Full()
	back := samples.Graph(2, [3]int{0, 1, 5}, [3]int{1, 0, 4})
	side := samples.Graph(3, [3]int{0, 1, 5}, [3]int{0, 1, 4}, [3]int{1, 2, 6})
	steps := samples.Graph(4, [3]int{0, 1, 9}, [3]int{0, 2, 9}, [3]int{0, 3, 9}, [3]int{1, 2, 9}, [3]int{1, 3, 9}, [3]int{2, 3, 9})
	all := []sample{
		{name: "no links", g: samples.Graph(2)},
		{name: "no links, an empty list", g: samples.Graph(3), f: []int{}},
		{name: "no links, as many vertices as may be", g: samples.Graph(api.MaxVerts)},
		{name: "0 everywhere, a town", g: town, f: same(8, 0)},
		{name: "0 everywhere, as many links as may be", g: full, f: same(api.MaxLinks, 0)},
		{name: "0 everywhere, Caps of 0", g: samples.Graph(2, [3]int{0, 1, 0}, [3]int{1, 0, 0}), f: []int{0, 0}},
		{name: "a link", g: back, f: []int{5, 0}},
		{name: "a link back", g: back, f: []int{0, 4}},
		{name: "a link at the greatest rate", g: samples.Graph(2, [3]int{0, 1, most}, [3]int{1, 0, 0}), f: []int{most, 0}},
		{name: "a line", g: line, f: same(7, 3)},
		{name: "a line, gains that are no flow's", g: line, f: []int{3, 1, 2, 0, 3, 1, 2}},
		{name: "side by side", g: side, f: []int{5, 4, 6}},
		{name: "all that leads up", g: steps, f: []int{1, 2, 3, 4, 5, 6}},
		{name: "a flow", g: town, f: []int{4, 3, 0, 0, 1, 1, 0, 0}},
		{name: "as many links as may be lead up", g: upward(), f: same(api.MaxLinks, 2)},
	}
	for i := range api.MaxVerts {
		f := same(api.MaxVerts, 4)
		f[i] = 0
		all = append(all, sample{name: "a ring of which a link carries 0", g: ring(api.MaxVerts, 1), f: f})
	}
	for i := range all {
		all[i].rests = lists(all[i].f)
	}
	return all
}

// upward: as many links as may be, each to a vertex of a greater number.
func upward() api.Graph {
	g := api.Graph{Verts: api.MaxVerts}
	for i := range api.MaxLinks {
		from := i % (api.MaxVerts - 1)
		g.Links = append(g.Links, api.Link{From: from, To: min(from+1+i/(api.MaxVerts-1), api.MaxVerts-1), Cap: 2})
	}
	return g
}

// single: lists with just one cycle.
func single() []sample {
	back := samples.Graph(2, [3]int{0, 1, 5}, [3]int{1, 0, 4})
	great := samples.Graph(2, [3]int{0, 1, most / 2}, [3]int{1, 0, most / 2})
	greater := samples.Graph(2, [3]int{0, 1, 1}, [3]int{1, 0, most - 1})
	three := samples.Graph(3, [3]int{2, 0, 9}, [3]int{1, 2, 9}, [3]int{0, 1, 9})
	wide := ring(api.MaxVerts, 1)
	whole := lists([]int{0, 1, 2, 3, 4, 5, 6, 7})
	return []sample{
		{"there and back", back, []int{5, 4}, lists([]int{0, 1}), lists([]int{1, 0})},
		{"there and back, more back", back, []int{1, 4}, lists([]int{0, 1}), lists([]int{0, 3})},
		{"there and back, alike", back, []int{1, 1}, lists([]int{0, 1}), lists([]int{0, 0})},
		{"there and back at the greatest rate", great, same(2, most/2), lists([]int{0, 1}), lists([]int{0, 0})},
		{"there and back, one below the greatest rate", greater, []int{1, most - 1}, lists([]int{0, 1}), lists([]int{0, most - 2})},
		{"three links, against their numbers", three, []int{3, 5, 4}, lists([]int{0, 2, 1}), lists([]int{0, 2, 1})},
		{"as many vertices as may be", wide, same(8, 9), whole, lists(same(8, 0))},
		{"as many, the least at the first", wide, []int{1, 2, 3, 4, 5, 6, 7, 8}, whole, lists([]int{0, 1, 2, 3, 4, 5, 6, 7})},
		{"as many, the least at the last", wide, []int{8, 7, 6, 5, 4, 3, 2, 1}, whole, lists([]int{7, 6, 5, 4, 3, 2, 1, 0})},
		{"as many, the least at several places", wide, []int{5, 2, 4, 2, 9, 2, 3, 7}, whole, lists([]int{3, 0, 2, 0, 7, 0, 1, 5})},
		{"as many, one link alone has more", wide, []int{1, 1, 1, 1, 1, 9, 1, 1}, whole, lists([]int{0, 0, 0, 0, 0, 8, 0, 0})},
	}
}

// beside: cycles beside what leads into them, out of them, through them.
func beside() []sample {
	away := samples.Graph(7, [3]int{0, 1, 9}, [3]int{1, 3, 9}, [3]int{4, 5, 9}, [3]int{5, 6, 9}, [3]int{6, 4, 9})
	through := samples.Graph(4, [3]int{0, 1, 9}, [3]int{1, 2, 9}, [3]int{2, 3, 9}, [3]int{2, 1, 9})
	cross := samples.Graph(5, [3]int{0, 1, 9}, [3]int{1, 4, 9}, [3]int{1, 2, 9}, [3]int{2, 3, 9}, [3]int{3, 1, 9})
	ends := samples.Graph(4, [3]int{0, 1, 9}, [3]int{1, 3, 9}, [3]int{3, 0, 9}, [3]int{1, 0, 9})
	into := samples.Graph(8, [3]int{0, 1, 9}, [3]int{1, 2, 9}, [3]int{2, 3, 9}, [3]int{3, 4, 9}, [3]int{4, 5, 9}, [3]int{5, 6, 9}, [3]int{6, 7, 9}, [3]int{7, 6, 9})
	out := samples.Graph(8, [3]int{1, 2, 9}, [3]int{2, 3, 9}, [3]int{3, 4, 9}, [3]int{4, 5, 9}, [3]int{5, 6, 9}, [3]int{6, 7, 9}, [3]int{0, 7, 9}, [3]int{0, 1, 9}, [3]int{1, 0, 9})
	three := samples.Graph(3, [3]int{0, 1, 9}, [3]int{1, 2, 9}, [3]int{2, 0, 9})
	return []sample{
		{"beside a flow's way", away, []int{3, 3, 2, 2, 2}, lists([]int{2, 3, 4}), lists([]int{3, 3, 0, 0, 0})},
		{"over a link of a flow's way", through, []int{2, 3, 2, 1}, lists([]int{1, 3}), lists([]int{2, 2, 2, 0})},
		{"at a vertex of a flow's way", cross, []int{5, 5, 1, 1, 1}, lists([]int{2, 3, 4}), lists([]int{5, 5, 0, 0, 0})},
		{"over the ends of a flow", ends, []int{3, 2, 0, 1}, lists([]int{0, 3}), lists([]int{2, 2, 0, 0})},
		{"more back to the source than leaves it", ends, []int{1, 1, 2, 0}, lists([]int{0, 1, 2}), lists([]int{0, 0, 1, 0})},
		{"at the end of a line", into, []int{1, 2, 3, 4, 5, 6, 7, 8}, lists([]int{6, 7}), lists([]int{1, 2, 3, 4, 5, 6, 0, 1})},
		{"at the beginning of a line", out, same(9, 3), lists([]int{7, 8}), lists([]int{3, 3, 3, 3, 3, 3, 3, 0, 0})},
		{"gains that are no flow's", three, []int{3, 5, 4}, lists([]int{0, 1, 2}), lists([]int{0, 2, 1})},
	}
}

// several: lists with more than one cycle.
func several() []sample {
	link := samples.Graph(4, [3]int{0, 1, 9}, [3]int{1, 2, 9}, [3]int{2, 0, 9}, [3]int{1, 3, 9}, [3]int{3, 0, 9})
	eight := samples.Graph(3, [3]int{0, 1, 9}, [3]int{1, 0, 9}, [3]int{1, 2, 9}, [3]int{2, 1, 9})
	apart := samples.Graph(4, [3]int{0, 1, 9}, [3]int{1, 0, 9}, [3]int{2, 3, 9}, [3]int{3, 2, 9})
	side := samples.Graph(2, [3]int{0, 1, 9}, [3]int{0, 1, 9}, [3]int{1, 0, 9})
	shared := lists([]int{0, 1, 2}, []int{0, 3, 4})
	pairs := samples.Graph(8, [3]int{0, 7, 9}, [3]int{7, 0, 9}, [3]int{1, 6, 9}, [3]int{6, 1, 9}, [3]int{2, 5, 9}, [3]int{5, 2, 9}, [3]int{3, 4, 9}, [3]int{4, 3, 9})
	double := ring(api.MaxVerts, 2)
	return []sample{
		{"two that share a link", link, []int{5, 2, 2, 3, 3}, shared, lists(same(5, 0))},
		{"two that share a link, too little for both", link, same(5, 2), shared, lists([]int{0, 2, 2, 0, 0}, []int{0, 1, 1, 1, 1}, []int{0, 0, 0, 2, 2})},
		{"two that share a link, of which one carries 0", link, []int{4, 0, 3, 3, 2}, lists([]int{0, 3, 4}), lists([]int{2, 0, 3, 1, 0})},
		{"two that share a link that carries 0", link, []int{0, 2, 3, 3, 2}, nil, lists([]int{0, 2, 3, 3, 2})},
		{"two that share a vertex alone", eight, []int{3, 2, 4, 4}, lists([]int{0, 1}, []int{2, 3}), lists([]int{1, 0, 0, 0})},
		{"two that share nothing", apart, []int{3, 3, 1, 2}, lists([]int{0, 1}, []int{2, 3}), lists([]int{0, 0, 0, 1})},
		{"two that share nothing, of which one carries 0", apart, []int{3, 0, 1, 2}, lists([]int{2, 3}), lists([]int{3, 0, 0, 1})},
		{"over the first of two side by side", side, []int{2, 0, 2}, lists([]int{0, 2}), lists([]int{0, 0, 0})},
		{"over the second of two side by side", side, []int{0, 2, 1}, lists([]int{1, 2}), lists([]int{0, 1, 0})},
		{"over both of two side by side", side, []int{1, 2, 2}, lists([]int{0, 2}, []int{1, 2}), lists([]int{1, 0, 0}, []int{0, 1, 0})},
		{"over both of two side by side, alike", side, []int{1, 2, 3}, lists([]int{0, 2}, []int{1, 2}), lists([]int{0, 0, 0})},
		{"as many apart as may be", pairs, []int{1, 2, 3, 2, 1, 1, 9, 8}, lists([]int{0, 1}, []int{2, 3}, []int{4, 5}, []int{6, 7}), lists([]int{0, 1, 1, 0, 0, 0, 1, 0})},
		{"as many links as may be, one round of them", double, append(same(8, 0), same(8, 5)...), lists([]int{8, 9, 10, 11, 12, 13, 14, 15}), lists(same(api.MaxLinks, 0))},
		{"as many links as may be, one round over both", double, []int{3, 0, 3, 0, 3, 0, 3, 0, 0, 4, 0, 4, 0, 4, 0, 4}, lists([]int{0, 9, 2, 11, 4, 13, 6, 15}), lists([]int{0, 0, 0, 0, 0, 0, 0, 0, 0, 1, 0, 1, 0, 1, 0, 1})},
	}
}

func all() []sample {
	return slices.Concat(none(), single(), beside(), several())
}

// fromLeast turns the links of a cycle so that the least one stands first.
func fromLeast(links []int) []int {
	at := slices.Index(links, slices.Min(links))
	return slices.Concat(links[at:], links[:at])
}

// isOneOf tells whether a list is one of several.
func isOneOf(several [][]int, list []int) bool {
	return slices.ContainsFunc(several, func(one []int) bool { return slices.Equal(one, list) })
}

// P14.1, by hand.

func TestFind(t *testing.T) {
	for _, x := range all() {
		links, ok, err := cycle.Find(x.g, x.f)
		due := len(links) == 0
		if len(x.cycles) > 0 {
			due = len(links) > 0 && isOneOf(x.cycles, fromLeast(links))
		}
		if !due || ok != (len(x.cycles) > 0) || err != api.OK {
			t.Errorf("%s: Find(%v, %v): %v, %t, %d, want one of %v", x.name, x.g, x.f, links, ok, err, x.cycles)
		}
	}
}

func TestCancel(t *testing.T) {
	for _, x := range all() {
		if b, err := cycle.Cancel(x.g, x.f); !isOneOf(x.rests, b) || err != api.OK {
			t.Errorf("%s: Cancel(%v, %v): %v, %d, want one of %v", x.name, x.g, x.f, b, err, x.rests)
		}
	}
}

// P14.1, wrong inputs.

// refused holds both against an error, with nothing beside it.
func refused(t *testing.T, name string, g api.Graph, f []int) {
	t.Helper()
	if links, ok, err := cycle.Find(g, f); len(links) != 0 || ok || err != api.ErrCycleForm {
		t.Errorf("%s: Find(%v, %v): %v, %t, %d", name, g, f, links, ok, err)
	}
	if b, err := cycle.Cancel(g, f); len(b) != 0 || err != api.ErrCycleForm {
		t.Errorf("%s: Cancel(%v, %v): %v, %d", name, g, f, b, err)
	}
}

func TestOfGraphsThatMayNotBe(t *testing.T) {
	for _, b := range samples.BadGraphs() {
		for _, f := range [][]int{nil, same(len(b.Graph.Links), 0), same(len(b.Graph.Links), 1), samples.Caps(b.Graph)} {
			refused(t, b.Name, b.Graph, f)
		}
	}
}

func TestOfListsThatDoNotLieWithin(t *testing.T) {
	for _, x := range all() {
		for _, no := range samples.Outside(samples.Caps(x.g)) {
			refused(t, x.name, x.g, no)
		}
		for i := range x.f {
			for _, off := range []int{-1, x.g.Links[i].Cap + 1} {
				no := slices.Clone(x.f)
				no[i] = off
				refused(t, x.name, x.g, no)
			}
		}
	}
}

// P14.1, against the words of the chapter.

// goesRound tells whether over links with f above 0 a vertex leads to itself: which ones lead where is closed over each vertex between.
func goesRound(g api.Graph, f []int) bool {
	var leads [api.MaxVerts][api.MaxVerts]bool
	for i, l := range g.Links {
		leads[l.From][l.To] = leads[l.From][l.To] || f[i] > 0
	}
	for by := range g.Verts {
		for from := range g.Verts {
			for to := range g.Verts {
				leads[from][to] = leads[from][to] || leads[from][by] && leads[by][to]
			}
		}
	}
	for v := range g.Verts {
		if leads[v][v] {
			return true
		}
	}
	return false
}

// isCycle tells whether links are a cycle in f.
func isCycle(g api.Graph, f []int, links []int) bool {
	var seen []int
	for i, l := range links {
		ahead := links[(i+len(links)-1)%len(links)]
		if l < 0 || l >= len(g.Links) || ahead < 0 || ahead >= len(g.Links) || f[l] <= 0 {
			return false
		}
		if g.Links[l].From != g.Links[ahead].To || slices.Contains(seen, g.Links[l].From) {
			return false
		}
		seen = append(seen, g.Links[l].From)
	}
	return len(links) >= 2
}

// sameGains tells whether each vertex's gain is alike in both, by layer 9.
func sameGains(g api.Graph, a []int, b []int) bool {
	for v := range g.Verts {
		one, err := stream.Value(g, a, v)
		two, err2 := stream.Value(g, b, v)
		if one != two || err != api.OK || err2 != api.OK {
			return false
		}
	}
	return true
}

// lies tells whether f lies within the Caps of g, if it may be.
func lies(g api.Graph, f []int) bool {
	for i := range f {
		if len(f) == len(g.Links) && (f[i] < 0 || f[i] > g.Links[i].Cap) {
			return false
		}
	}
	return len(f) == len(g.Links)
}

// check holds both against the words, of a graph that may be, and tells whether there is a cycle.
func check(t *testing.T, g api.Graph, f []int) bool {
	t.Helper()
	if !lies(g, f) {
		refused(t, "not within Caps", g, f)
		return false
	}
	round := goesRound(g, f)
	links, ok, err := cycle.Find(g, f)
	if ok != round || ok != isCycle(g, f, links) || !ok && len(links) != 0 || err != api.OK {
		t.Errorf("Find(%v, %v): %v, %t, %d", g, f, links, ok, err)
	}
	b, err := cycle.Cancel(g, f)
	if len(b) != len(f) || err != api.OK {
		t.Errorf("Cancel(%v, %v): %v, %d", g, f, b, err)
		return round
	}
	for i := range b {
		if b[i] < 0 || b[i] > f[i] {
			t.Errorf("Cancel(%v, %v): %v, link %d", g, f, b, i)
			return round
		}
	}
	if goesRound(g, b) || !sameGains(g, b, f) || !round && !slices.Equal(b, f) {
		t.Errorf("Cancel(%v, %v): %v", g, f, b)
	}
	return round
}

func TestSamplesAgainstTheWords(t *testing.T) {
	for _, x := range all() {
		if got := check(t, x.g, x.f); got != (len(x.cycles) > 0) {
			t.Errorf("%s: %t", x.name, got)
		}
		for _, links := range x.cycles {
			if !isCycle(x.g, x.f, links) {
				t.Errorf("%s: %v", x.name, links)
			}
		}
		check(t, x.g, samples.Caps(x.g))
		check(t, x.g, same(len(x.f), 1))
	}
}

func TestBothAgree(t *testing.T) {
	for _, x := range all() {
		b, _ := cycle.Cancel(x.g, x.f)
		if links, ok, err := cycle.Find(x.g, b); len(links) != 0 || ok || err != api.OK {
			t.Errorf("%s: Find(%v, %v): %v, %t, %d", x.name, x.g, b, links, ok, err)
		}
		if again, err := cycle.Cancel(x.g, b); !slices.Equal(again, b) || err != api.OK {
			t.Errorf("%s: Cancel(%v, %v): %v, %d", x.name, x.g, b, again, err)
		}
	}
}

func TestAllSmallLists(t *testing.T) {
	rounds := 0
	for _, g := range []api.Graph{
		samples.Graph(2, [3]int{0, 1, 2}, [3]int{1, 0, 2}, [3]int{0, 1, 1}, [3]int{1, 0, 0}),
		samples.Graph(3, [3]int{0, 1, 2}, [3]int{1, 2, 2}, [3]int{2, 0, 2}, [3]int{1, 0, 2}),
		samples.Graph(3, [3]int{0, 1, 1}, [3]int{1, 2, 2}, [3]int{2, 0, 1}),
		samples.Graph(3, [3]int{0, 1, 2}, [3]int{1, 0, 2}, [3]int{1, 2, 2}, [3]int{2, 1, 2}, [3]int{2, 0, 2}),
		samples.Graph(4, [3]int{3, 2, 2}, [3]int{2, 1, 2}, [3]int{1, 3, 2}, [3]int{2, 0, 2}, [3]int{0, 3, 2}),
	} {
		for _, f := range samples.Lists([]int{-1, 0, 1, 2, 3}, 5) {
			if check(t, g, f) {
				rounds++
			}
		}
	}
	if rounds < 300 {
		t.Errorf("only %d have a cycle", rounds)
	}
}

// Each set of links between three vertices, each way of listing them.
func TestAllSmallGraphs(t *testing.T) {
	rows := samples.Lists([]int{0, 1, 2, 3, 4, 5}, 5)
	ways := [][3]int{{0, 1, 3}, {1, 2, 3}, {2, 0, 3}, {1, 0, 2}, {2, 1, 2}, {0, 2, 2}}
	for _, row := range rows {
		var links [][3]int
		for _, n := range row {
			links = append(links, ways[n])
		}
		g := samples.Graph(3, links...)
		check(t, g, samples.Caps(g))
	}
}

func TestWhateverLists(t *testing.T) {
	r := rand.New(rand.NewSource(14))
	rounds, without := 0, 0
	for range 20000 {
		g := samples.Drawn(r.Intn, []int{2, 3, 9, most / api.MaxLinks}[r.Intn(4)])
		f := samples.DrawnBelow(r.Intn, samples.Caps(g))
		for i := range f {
			if r.Intn(3) == 0 {
				f[i] = 0
			}
		}
		if check(t, g, f) {
			rounds++
		} else {
			without++
		}
	}
	if rounds < 4000 || without < 4000 {
		t.Errorf("only %d have a cycle, %d none", rounds, without)
	}
}

// Of a flow a flow is left, of the same Value.
func TestWhateverFlows(t *testing.T) {
	r := rand.New(rand.NewSource(141))
	rounds, flows := 0, 0
	for range 5000 {
		g := samples.Drawn(r.Intn, []int{3, 9, most / api.MaxLinks}[r.Intn(3)])
		src := r.Intn(g.Verts)
		dst := (src + 1 + r.Intn(g.Verts-1)) % g.Verts
		f := samples.DrawnFlow(r.Intn, g, samples.Caps(g), src, dst)
		if check(t, g, f) {
			rounds++
		}
		b, err := cycle.Cancel(g, f)
		value, _ := stream.Value(g, f, src)
		rest, _ := stream.Value(g, b, src)
		if !stream.May(g, f, b, src, dst) || rest != value || err != api.OK {
			t.Errorf("Cancel(%v, %v): %v, %d, from %d to %d", g, f, b, err, src, dst)
		}
		if value > 0 {
			flows++
		}
	}
	if rounds < 500 || flows < 500 {
		t.Errorf("only %d have a cycle, %d flow", rounds, flows)
	}
}

// R4: what is handed in is not changed, nor its spare room, nor kept; answers are new memory.

func TestWhatIsHandedInIsNotChanged(t *testing.T) {
	untouched := func(g api.Graph, f []int) {
		t.Helper()
		links, wholeLinks := samples.Roomy(g.Links, api.Link{From: -7, To: -8, Cap: -9})
		f, wholeList := samples.Roomy(f, -7)
		wasLinks, wasList := slices.Clone(wholeLinks), slices.Clone(wholeList)
		cycle.Find(api.Graph{Verts: g.Verts, Links: links}, f)
		cycle.Cancel(api.Graph{Verts: g.Verts, Links: links}, f)
		if !slices.Equal(wholeLinks, wasLinks) || !slices.Equal(wholeList, wasList) {
			t.Errorf("changed: %v, %v", wholeLinks, wholeList)
		}
	}
	for _, x := range all() {
		untouched(x.g, x.f)
		for _, no := range samples.Outside(samples.Caps(x.g)) {
			untouched(x.g, no)
		}
	}
	for _, b := range samples.BadGraphs() {
		untouched(b.Graph, samples.Caps(b.Graph))
	}
}

func TestAnswersAreNewMemory(t *testing.T) {
	for _, x := range all() {
		links, f := slices.Clone(x.g.Links), slices.Clone(x.f)
		g := api.Graph{Verts: x.g.Verts, Links: links}
		found, _, _ := cycle.Find(g, f)
		rest, _ := cycle.Cancel(g, f)
		wasFound, wasRest := slices.Clone(found), slices.Clone(rest)
		two, _, _ := cycle.Find(g, f)
		twoRest, _ := cycle.Cancel(g, f)
		samples.Spoil(found)
		samples.Spoil(rest)
		three, _, _ := cycle.Find(g, f)
		threeRest, _ := cycle.Cancel(g, f)
		if !slices.Equal(two, wasFound) || !slices.Equal(three, wasFound) || !slices.Equal(twoRest, wasRest) || !slices.Equal(threeRest, wasRest) {
			t.Errorf("%s: %v, then %v, %v; %v, then %v, %v", x.name, wasFound, two, three, wasRest, twoRest, threeRest)
		}
		if !slices.Equal(links, x.g.Links) || !slices.Equal(f, x.f) {
			t.Errorf("%s: the answer is %v, %v", x.name, links, f)
		}
	}
}

func TestWhatIsHandedInIsNotKept(t *testing.T) {
	for _, x := range all() {
		g := api.Graph{Verts: x.g.Verts, Links: slices.Clone(x.g.Links)}
		f := slices.Clone(x.f)
		found, _, _ := cycle.Find(g, f)
		rest, _ := cycle.Cancel(g, f)
		wasFound, wasRest := slices.Clone(found), slices.Clone(rest)
		for i := range g.Links {
			g.Links[i] = api.Link{From: i % 2, To: 1 - i%2, Cap: 2}
			f[i] = 1
		}
		if !slices.Equal(found, wasFound) || !slices.Equal(rest, wasRest) {
			t.Errorf("%s: the answers turned: %v, %v", x.name, found, rest)
		}
		check(t, g, f)
		check(t, x.g, x.f)
	}
}

// R5: from several goroutines at one time.

func TestFromSeveralGoroutines(t *testing.T) {
	g, f := ring(api.MaxVerts, 1), []int{5, 2, 4, 2, 9, 2, 3, 7}
	var all sync.WaitGroup
	for range 8 {
		all.Go(func() {
			for range 200 {
				links, ok, err := cycle.Find(g, f)
				b, err2 := cycle.Cancel(g, f)
				if !isCycle(g, f, links) || !ok || err != api.OK || !slices.Equal(b, []int{3, 0, 2, 0, 7, 0, 1, 5}) || err2 != api.OK {
					t.Errorf("%v, %t, %d; %v, %d", links, ok, err, b, err2)
				}
			}
		})
	}
	all.Wait()
}
