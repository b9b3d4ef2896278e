package push_test

import (
	"math"
	"math/rand"
	"slices"
	"sync"
	"testing"

	"tollbar/api"
	"tollbar/graph"
	"tollbar/push"
	"tollbar/samples"
	"tollbar/stream"
	"tollbar/within"
)

const great = api.MaxRate

// sample is what is asked, and what is due.
type sample struct {
	name string
	g    api.Graph
	caps []int
	src  int
	dst  int
	// most is the Value of the greatest flow.
	most int
	// flow is the greatest flow, if no other one may be; else nil.
	flow []int
}

// same gives as many of one number.
func same(n int, x int) []int {
	return slices.Repeat([]int{x}, n)
}

// open makes a sample whose caps are the Caps of its links.
func open(name string, g api.Graph, src int, dst int, most int, flow ...int) sample {
	return sample{name, g, samples.Caps(g), src, dst, most, flow}
}

// lines: one way alone, as long as may be, or none.
func lines() []sample {
	g, n := samples.Line(), api.MaxVerts-1
	caps, zero := same(n, 3), same(n, 0)
	return []sample{
		{"as many vertices as may be", g, caps, 0, 7, 3, same(n, 3)},
		{"a narrow place", g, []int{3, 3, 3, 2, 3, 3, 3}, 0, 7, 2, same(n, 2)},
		{"narrower and narrower", g, []int{3, 3, 2, 2, 2, 1, 1}, 0, 7, 1, same(n, 1)},
		{"wider and wider", g, []int{1, 1, 2, 2, 2, 3, 3}, 0, 7, 1, same(n, 1)},
		{"a cap of 0 first", g, []int{0, 3, 3, 3, 3, 3, 3}, 0, 7, 0, zero},
		{"a cap of 0 last", g, []int{3, 3, 3, 3, 3, 3, 0}, 0, 7, 0, zero},
		{"caps of 0", g, zero, 0, 7, 0, zero},
		{"against the links", g, caps, 7, 0, 0, zero},
		{"a part of the line", g, caps, 2, 5, 3, []int{0, 0, 3, 3, 3, 0, 0}},
		{"the next vertex", g, caps, 6, 7, 3, []int{0, 0, 0, 0, 0, 0, 3}},
		{"no links", samples.Graph(2), nil, 0, 1, 0, nil},
		{"no links, the other way", samples.Graph(3), nil, 2, 0, 0, nil},
		{"no links, empty lists", api.Graph{Verts: api.MaxVerts, Links: []api.Link{}}, []int{}, 7, 3, 0, nil},
	}
}

// sides: several links between the same two vertices, there and back; great caps.
func sides() []sample {
	one := samples.Graph(2, [3]int{0, 1, great})
	many := samples.Graph(2, [3]int{0, 1, 5}, [3]int{0, 1, 4}, [3]int{1, 0, 3}, [3]int{0, 1, 0}, [3]int{0, 1, 2})
	all := api.Graph{Verts: 2, Links: slices.Repeat([]api.Link{{From: 0, To: 1, Cap: great / api.MaxLinks}}, api.MaxLinks)}
	return []sample{
		open("a cap of the greatest rate", one, 0, 1, great, great),
		{"one below it", one, []int{great - 1}, 0, 1, great - 1, []int{great - 1}},
		{"1 of it", one, []int{1}, 0, 1, 1, []int{1}},
		{"0 of it", one, []int{0}, 0, 1, 0, []int{0}},
		open("a cap of the greatest rate, from the link's end", one, 1, 0, 0, 0),
		open("a Cap of 0", samples.Graph(2, [3]int{0, 1, 0}), 0, 1, 0, 0),
		open("side by side", many, 0, 1, 11, 5, 4, 0, 0, 2),
		open("side by side, the other way", many, 1, 0, 3, 0, 0, 3, 0, 0),
		{"side by side, narrower", many, []int{1, 0, 3, 0, 2}, 0, 1, 3, []int{1, 0, 0, 0, 2}},
		open("as many links as may be side by side", all, 0, 1, great, samples.Caps(all)...),
		open("as many links as may be side by side, the other way", all, 1, 0, 0, same(api.MaxLinks, 0)...),
		open("halves of the greatest rate in turn", samples.Graph(3, [3]int{0, 1, great / 2}, [3]int{1, 2, great / 2}), 0, 2, great/2, great/2, great/2),
		open("two, then two", samples.Graph(3, [3]int{0, 1, 5}, [3]int{0, 1, 4}, [3]int{1, 2, 6}, [3]int{1, 2, 2}), 0, 2, 8),
		open("two, then one", samples.Graph(3, [3]int{0, 1, 5}, [3]int{0, 1, 4}, [3]int{1, 2, 10}), 0, 2, 9, 5, 4, 9),
	}
}

// ends: what leads into the source, out of the sink, or not to it at all.
func ends() []sample {
	home := samples.Graph(3, [3]int{0, 1, 4}, [3]int{1, 2, 3}, [3]int{2, 0, 9}, [3]int{2, 1, 9}, [3]int{1, 0, 9})
	round := samples.Graph(4, [3]int{0, 1, 2}, [3]int{1, 2, 2}, [3]int{2, 0, 2})
	apart := samples.Graph(6, [3]int{0, 1, 2}, [3]int{3, 4, 2}, [3]int{4, 5, 2})
	return []sample{
		open("links from the sink and into the source", home, 0, 2, 3),
		open("links from the sink and into the source alone", samples.Graph(3, [3]int{2, 1, 9}, [3]int{1, 0, 9}, [3]int{2, 0, 9}), 0, 2, 0, 0, 0, 0),
		open("a link back beside the link there", samples.Graph(2, [3]int{0, 1, 4}, [3]int{1, 0, 9}), 0, 1, 4),
		open("no links lead to the sink", round, 0, 3, 0),
		open("no links lead from the source", round, 3, 0, 0),
		open("what leads to the sink lies apart", apart, 0, 5, 0, 0, 0, 0),
		open("what leads to the sink goes against", samples.Graph(3, [3]int{0, 1, 5}, [3]int{2, 1, 5}), 0, 2, 0, 0, 0),
		open("the one link to the sink has a Cap of 0", samples.Graph(3, [3]int{0, 1, 5}, [3]int{1, 2, 0}), 0, 2, 0, 0, 0),
		open("a round beside the way, apart", samples.Graph(5, [3]int{0, 1, 2}, [3]int{2, 3, 7}, [3]int{3, 4, 7}, [3]int{4, 2, 7}), 0, 1, 2),
		open("a round from the way and back", samples.Graph(5, [3]int{0, 1, 3}, [3]int{1, 2, 2}, [3]int{1, 3, 7}, [3]int{3, 4, 7}, [3]int{4, 1, 7}), 0, 2, 2),
		open("a round over source and sink", round, 0, 2, 2),
		open("a way that leads nowhere", samples.Graph(4, [3]int{0, 3, 5}, [3]int{0, 1, 5}, [3]int{1, 3, 5}, [3]int{1, 2, 4}), 0, 2, 4, 0, 4, 0, 4),
	}
}

// ways: of unlike length, one after the other.
func ways() []sample {
	square := samples.Graph(4, [3]int{0, 1, 5}, [3]int{1, 3, 4}, [3]int{0, 2, 3}, [3]int{2, 3, 5}, [3]int{0, 3, 5})
	four := samples.Graph(8, [3]int{0, 4, 4}, [3]int{4, 5, 4}, [3]int{5, 7, 4}, [3]int{7, 6, 4}, [3]int{0, 6, 1}, [3]int{0, 1, 2}, [3]int{1, 6, 2}, [3]int{0, 2, 3}, [3]int{2, 3, 3}, [3]int{3, 6, 3})
	// From each vertex of a line to the one ahead of its last, and straight from the first one.
	steps := samples.Graph(8, [3]int{0, 1, 6}, [3]int{1, 2, 5}, [3]int{2, 3, 4}, [3]int{3, 4, 3}, [3]int{4, 5, 2}, [3]int{5, 6, 1}, [3]int{0, 7, 1}, [3]int{1, 7, 1}, [3]int{2, 7, 1}, [3]int{3, 7, 1}, [3]int{4, 7, 1}, [3]int{5, 7, 1}, [3]int{6, 7, 1})
	return []sample{
		open("one and two links long", square, 0, 3, 12, 4, 4, 3, 3, 5),
		{"narrow, one and two links long", square, []int{1, 4, 3, 2, 0}, 0, 3, 3, []int{1, 1, 2, 2, 0}},
		open("no way between its corners", square, 1, 2, 0, 0, 0, 0, 0, 0),
		open("one to four links long", four, 0, 6, 10, samples.Caps(four)...),
		open("one to seven links long", steps, 0, 7, 7, samples.Caps(steps)...),
	}
}

// backs: the greatest flow is found only over arcs back, if the shorter ways are taken first.
func backs() []sample {
	// The short way goes over link 1, the longer ones end and begin at it.
	bridge := samples.Graph(6, [3]int{0, 1, 5}, [3]int{1, 2, 4}, [3]int{2, 5, 4}, [3]int{0, 3, 2}, [3]int{3, 2, 2}, [3]int{1, 4, 3}, [3]int{4, 5, 3})
	long := samples.Graph(8, [3]int{0, 1, 1}, [3]int{1, 2, 1}, [3]int{2, 7, 1}, [3]int{0, 3, 1}, [3]int{3, 4, 1}, [3]int{4, 2, 1}, [3]int{1, 5, 1}, [3]int{5, 6, 1}, [3]int{6, 7, 1})
	// Two arcs back, one behind the other.
	two := samples.Graph(8, [3]int{0, 1, 2}, [3]int{1, 2, 2}, [3]int{2, 3, 2}, [3]int{3, 7, 2}, [3]int{0, 4, 2}, [3]int{4, 5, 2}, [3]int{5, 3, 2}, [3]int{1, 6, 2}, [3]int{6, 7, 2})
	zigzag := samples.Graph(4, [3]int{0, 1, great / 8}, [3]int{0, 2, great / 8}, [3]int{1, 2, 1}, [3]int{1, 3, great / 8}, [3]int{2, 3, great / 8})
	return []sample{
		{"a rate of 1 over one arc back", bridge, same(7, 1), 0, 5, 2, []int{1, 0, 1, 1, 1, 1, 1}},
		open("some of what went there", bridge, 0, 5, 7, 5, 2, 4, 2, 2, 3, 3),
		{"all that went there", bridge, []int{2, 2, 2, 2, 2, 2, 2}, 0, 5, 4, []int{2, 0, 2, 2, 2, 2, 2}},
		{"nothing comes over it", bridge, []int{5, 4, 4, 2, 0, 3, 3}, 0, 5, 5, nil},
		open("all vertices on a way over an arc back", long, 0, 7, 2, 1, 0, 1, 1, 1, 1, 1, 1, 1),
		open("two arcs back", two, 0, 7, 4, 2, 0, 0, 2, 2, 2, 2, 2, 2),
		open("great caps beside a cap of 1", zigzag, 0, 3, great/4, great/8, great/8, 0, great/8, great/8),
	}
}

// towns: of graphs with many links.
func towns() []sample {
	town, full := samples.Town(), samples.Full()
	// Three ranks of two between 0 and 7.
	ranks := samples.Graph(8, [3]int{0, 1, 9}, [3]int{0, 2, 9}, [3]int{1, 3, 2}, [3]int{1, 4, 2}, [3]int{2, 3, 2}, [3]int{2, 4, 2}, [3]int{3, 5, 3}, [3]int{3, 6, 1}, [3]int{4, 5, 1}, [3]int{4, 6, 3}, [3]int{5, 7, 9}, [3]int{6, 7, 9}, [3]int{0, 1, 9}, [3]int{5, 7, 1}, [3]int{1, 3, 1}, [3]int{4, 6, 1})
	return []sample{
		open("a town", town, 0, 3, 7),
		open("a town, from 2", town, 2, 0, 4),
		open("a town, to 2", town, 3, 2, 1),
		{"a town, caps of 0", town, same(8, 0), 0, 3, 0, same(8, 0)},
		open("as many links as may be", full, 1, 2, great/8),
		open("as many links as may be, farther off", full, 1, 5, great/8),
		{"as many links as may be, of 1", full, same(api.MaxLinks, 1), 7, 6, 2, nil},
		{"as many links as may be, caps of 0", full, same(api.MaxLinks, 0), 1, 0, 0, same(api.MaxLinks, 0)},
		open("three ranks", ranks, 0, 7, 8),
	}
}

func all() []sample {
	return slices.Concat(lines(), sides(), ends(), ways(), backs(), towns())
}

// wants gives what may be asked for of a greatest flow of that Value: its edges, and all that is little.
func wants(most int) []int {
	list := []int{0, most, great - 1, great}
	if most > 0 {
		list = append(list, most-1)
	}
	if most < great {
		list = append(list, most+1)
	}
	for want := range min(most, 16) {
		list = append(list, want)
	}
	return list
}

// P12.1, by hand.

func TestSamples(t *testing.T) {
	for _, x := range all() {
		if least := samples.LeastCut(x.g, x.caps, x.src, x.dst); least != x.most {
			t.Errorf("%s: the least cut is %d, not %d", x.name, least, x.most)
		}
	}
}

func TestPush(t *testing.T) {
	for _, x := range all() {
		for _, want := range wants(x.most) {
			f, n := check(t, x.g, x.caps, x.src, x.dst, want)
			if n != min(want, x.most) {
				t.Errorf("%s: %d, want %d of %d", x.name, n, want, x.most)
			}
			if want >= x.most && x.flow != nil && !slices.Equal(f, x.flow) {
				t.Errorf("%s: %v, want %v", x.name, f, x.flow)
			}
		}
	}
}

// P12.1, wrong inputs.

func refused(t *testing.T, name string, g api.Graph, caps []int, src int, dst int, want int) {
	t.Helper()
	if f, n, err := push.Push(g, caps, src, dst, want); len(f) != 0 || n != 0 || err != api.ErrPushForm {
		t.Errorf("%s: Push(%v, %v, %d, %d, %d): %v, %d, %d", name, g, caps, src, dst, want, f, n, err)
	}
}

func TestPushInWhatMayBeNoGraph(t *testing.T) {
	for _, b := range samples.BadGraphs() {
		for _, caps := range [][]int{nil, make([]int, len(b.Graph.Links)), samples.Caps(b.Graph)} {
			for _, ends := range [][2]int{{0, 1}, {1, 0}, {0, 3}, {3, 0}, {0, 0}, {-1, 9}} {
				for _, want := range []int{-1, 0, 1, great, great + 1} {
					refused(t, b.Name, b.Graph, caps, ends[0], ends[1], want)
				}
			}
		}
	}
}

func TestPushOfWhatMayNotBe(t *testing.T) {
	for _, x := range all() {
		for _, want := range []int{math.MinInt, -great, -1, great + 1, math.MaxInt} {
			refused(t, "want is no rate", x.g, x.caps, x.src, x.dst, want)
		}
		for _, want := range []int{-1, 0, 1, great} {
			for _, no := range samples.NoVerts(x.g) {
				refused(t, "src is no vertex", x.g, x.caps, no, x.dst, want)
				refused(t, "dst is no vertex", x.g, x.caps, x.src, no, want)
				refused(t, "neither is a vertex", x.g, x.caps, no, no, want)
			}
			for v := range x.g.Verts {
				refused(t, "src is dst", x.g, x.caps, v, v, want)
			}
			for _, no := range samples.Outside(samples.Caps(x.g)) {
				refused(t, "no caps", x.g, no, x.src, x.dst, want)
			}
		}
	}
}

// P12.1, against the words of the chapter.

// leads tells whether arcs with Room above 0 lead from src to dst.
func leads(g api.Graph, caps []int, f []int, src int, dst int) bool {
	met := make([]bool, g.Verts)
	met[src] = true
	for range g.Verts {
		for i, l := range g.Links {
			there, _ := stream.Room(g, caps, f, 2*i)
			back, _ := stream.Room(g, caps, f, 2*i+1)
			met[l.To] = met[l.To] || met[l.From] && there > 0
			met[l.From] = met[l.From] || met[l.To] && back > 0
		}
	}
	return met[dst]
}

// fault tells which of the chapter's words an answer breaks, if any.
func fault(g api.Graph, caps []int, src int, dst int, want int, f []int, n int) string {
	if !stream.May(g, caps, f, src, dst) {
		return "no flow within caps"
	}
	if value, err := stream.Value(g, f, src); value != n || err != api.OK {
		return "the number is not its Value"
	}
	if n > want {
		return "above want"
	}
	if n < want && leads(g, caps, f, src, dst) {
		return "below want, and arcs with Room lead on"
	}
	return ""
}

// may tells whether it is what Push may be asked.
func may(g api.Graph, caps []int, src int, dst int, want int) bool {
	return graph.May(g) && within.Caps(g, caps) && within.Verts(g, src, dst) && src != dst && want >= 0 && want <= great
}

// check holds Push against the words of the chapter and against the least cut, and gives what it answers.
func check(t *testing.T, g api.Graph, caps []int, src int, dst int, want int) ([]int, int) {
	t.Helper()
	if !may(g, caps, src, dst, want) {
		refused(t, "may not be", g, caps, src, dst, want)
		return nil, 0
	}
	f, n, err := push.Push(g, caps, src, dst, want)
	if err != api.OK {
		t.Errorf("Push(%v, %v, %d, %d, %d): %d", g, caps, src, dst, want, err)
		return f, n
	}
	if why := fault(g, caps, src, dst, want, f, n); why != "" {
		t.Errorf("Push(%v, %v, %d, %d, %d): %v, %d: %s", g, caps, src, dst, want, f, n, why)
	}
	if least := samples.LeastCut(g, caps, src, dst); n != min(want, least) {
		t.Errorf("Push(%v, %v, %d, %d, %d): %d, but the least cut is %d", g, caps, src, dst, want, n, least)
	}
	return f, n
}

// The words of the chapter themselves: an answer that breaks one of them is found out.
func TestFault(t *testing.T) {
	// Beside links 0 and 1, link 2 goes straight on; links 3 and 4 are a round, one of them back to the source.
	g := samples.Graph(3, [3]int{0, 1, 2}, [3]int{1, 2, 3}, [3]int{0, 2, 1}, [3]int{1, 0, 4}, [3]int{2, 1, 5})
	caps, zero := []int{2, 3, 1, 4, 4}, same(5, 0)
	for _, x := range []struct {
		name string
		want int
		f    []int
		n    int
	}{
		{"", 0, zero, 0},
		{"", 0, []int{1, 0, 0, 1, 0}, 0},
		{"", 2, []int{1, 1, 1, 0, 0}, 2},
		{"", 2, []int{2, 2, 0, 0, 0}, 2},
		{"", 3, []int{2, 2, 1, 0, 0}, 3},
		{"", 4, []int{2, 2, 1, 0, 0}, 3},
		{"", 4, []int{2, 3, 1, 0, 1}, 3},
		{"no flow within caps", 2, nil, 0},
		{"no flow within caps", 2, []int{1, 0, 0, 0, 0}, 1},
		{"no flow within caps", 9, []int{3, 3, 1, 0, 0}, 4},
		{"no flow within caps", 9, []int{2, 2, 1, 0, 5}, 3},
		{"the number is not its Value", 2, []int{1, 1, 1, 0, 0}, 1},
		{"the number is not its Value", 2, []int{1, 1, 1, 0, 0}, 3},
		{"the number is not its Value", 0, []int{1, 1, 0, 0, 0}, 0},
		{"above want", 1, []int{1, 1, 1, 0, 0}, 2},
		{"above want", 0, []int{0, 0, 1, 0, 0}, 1},
		{"below want, and arcs with Room lead on", 1, zero, 0},
		{"below want, and arcs with Room lead on", 3, []int{1, 1, 1, 0, 0}, 2},
		{"below want, and arcs with Room lead on", great, []int{2, 2, 0, 0, 0}, 2},
	} {
		if got := fault(g, caps, 0, 2, x.want, x.f, x.n); got != x.name {
			t.Errorf("%v, %d of %d: %q, want %q", x.f, x.n, x.want, got, x.name)
		}
	}
	// What is left lies over an arc back alone.
	h := samples.Graph(4, [3]int{0, 1, 1}, [3]int{1, 2, 1}, [3]int{2, 3, 1}, [3]int{0, 2, 1}, [3]int{1, 3, 1})
	if got := fault(h, samples.Caps(h), 0, 3, 2, []int{1, 1, 1, 0, 0}, 1); got != "below want, and arcs with Room lead on" {
		t.Errorf("over an arc back: %q", got)
	}
}

func TestBetweenAllVertices(t *testing.T) {
	for _, x := range all() {
		for src := -1; src <= x.g.Verts; src++ {
			for dst := -1; dst <= x.g.Verts; dst++ {
				_, n := check(t, x.g, x.caps, src, dst, great)
				for _, want := range []int{-1, 0, 1, n - 1, n, n + 1} {
					check(t, x.g, x.caps, src, dst, want)
				}
			}
		}
	}
}

// All caps of small rates, and each want up to one more than can go.
func TestAllSmallCaps(t *testing.T) {
	g := samples.Graph(4, [3]int{0, 1, 3}, [3]int{1, 3, 3}, [3]int{0, 2, 3}, [3]int{2, 3, 3}, [3]int{1, 2, 3})
	for _, caps := range samples.Lists([]int{0, 1, 2, 3}, 5) {
		for want := -1; want <= 7; want++ {
			check(t, g, caps, 0, 3, want)
		}
	}
}

// All graphs of four vertices and up to four links, which take unlike rates.
func TestAllSmallGraphs(t *testing.T) {
	for _, g := range samples.Small(4, 1, 2, 3) {
		for _, want := range []int{1, great} {
			check(t, g, samples.Caps(g), 0, 3, want)
		}
	}
}

func TestWhateverGraphs(t *testing.T) {
	r := rand.New(rand.NewSource(12))
	whole, short, none := 0, 0, 0
	for range 10000 {
		g := samples.Drawn(r.Intn, []int{2, 6, 1000, great / api.MaxLinks}[r.Intn(4)])
		caps := samples.Caps(g)
		src := r.Intn(g.Verts)
		dst := (src + 1 + r.Intn(g.Verts-1)) % g.Verts
		want := []int{r.Intn(4), r.Intn(2000), great - r.Intn(2)}[r.Intn(3)]
		switch _, n := check(t, g, caps, src, dst, want); n {
		case 0:
			none++
		case want:
			whole++
		default:
			short++
		}
	}
	if whole < 500 || short < 500 || none < 500 {
		t.Errorf("only %d whole, %d short, %d none", whole, short, none)
	}
}

func TestWhateverCaps(t *testing.T) {
	r := rand.New(rand.NewSource(122))
	for range 10000 {
		g := samples.Drawn(r.Intn, []int{1, 2, 6, great / api.MaxLinks}[r.Intn(4)])
		caps := samples.DrawnBelow(r.Intn, samples.Caps(g))
		check(t, g, caps, r.Intn(g.Verts+2)-1, r.Intn(g.Verts+2)-1, r.Intn(8)-1)
	}
}

// R4: what is handed in is not changed, nor its spare room, nor kept; answers are new memory.

func TestWhatIsHandedInIsNotChanged(t *testing.T) {
	untouched := func(g api.Graph, caps []int, src int, dst int, want int) {
		t.Helper()
		links, wholeLinks := samples.Roomy(g.Links, api.Link{From: -7, To: -8, Cap: -9})
		caps, wholeCaps := samples.Roomy(caps, -7)
		wasLinks, wasCaps := slices.Clone(wholeLinks), slices.Clone(wholeCaps)
		push.Push(api.Graph{Verts: g.Verts, Links: links}, caps, src, dst, want)
		if !slices.Equal(wholeLinks, wasLinks) || !slices.Equal(wholeCaps, wasCaps) {
			t.Errorf("changed: %v, %v", wholeLinks, wholeCaps)
		}
	}
	for _, x := range all() {
		for _, want := range []int{-1, 0, 1, x.most, great} {
			untouched(x.g, x.caps, x.src, x.dst, want)
			untouched(x.g, x.caps, x.dst, x.src, want)
		}
		for _, no := range samples.Outside(samples.Caps(x.g)) {
			untouched(x.g, no, x.src, x.dst, great)
		}
	}
	for _, b := range samples.BadGraphs() {
		untouched(b.Graph, samples.Caps(b.Graph), 0, 1, 1)
	}
}

func TestAnswersAreNewMemory(t *testing.T) {
	for _, x := range all() {
		links, caps := slices.Clone(x.g.Links), slices.Clone(x.caps)
		g := api.Graph{Verts: x.g.Verts, Links: links}
		for _, want := range []int{0, 1, x.most, great} {
			one, _, _ := push.Push(g, caps, x.src, x.dst, want)
			was := slices.Clone(one)
			two, _, _ := push.Push(g, caps, x.src, x.dst, want)
			samples.Spoil(one)
			three, n, err := push.Push(g, caps, x.src, x.dst, want)
			if !slices.Equal(two, was) || !slices.Equal(three, was) || n != min(want, x.most) || err != api.OK {
				t.Errorf("%s: %v, %v, then %v, %d, %d", x.name, was, two, three, n, err)
			}
		}
		if !slices.Equal(links, x.g.Links) || !slices.Equal(caps, x.caps) {
			t.Errorf("%s: the answer is %v, %v", x.name, links, caps)
		}
	}
}

func TestWhatIsHandedInIsNotKept(t *testing.T) {
	for _, x := range all() {
		g := api.Graph{Verts: x.g.Verts, Links: slices.Clone(x.g.Links)}
		caps := slices.Clone(x.caps)
		f, n, err := push.Push(g, caps, x.src, x.dst, great)
		was := slices.Clone(f)
		for i := range g.Links {
			g.Links[i] = api.Link{From: 1, To: 0, Cap: 2}
			caps[i] = 2
		}
		if !slices.Equal(f, was) || n != x.most || err != api.OK {
			t.Errorf("%s: the answer turned: %v, %d, %d", x.name, f, n, err)
		}
		check(t, g, caps, 1, 0, great)
		check(t, x.g, x.caps, x.src, x.dst, great)
	}
}

// R5: the same answer each time, from several goroutines at one time.

func TestFromSeveralGoroutines(t *testing.T) {
	g, caps := samples.Town(), samples.Caps(samples.Town())
	want, wantN, _ := push.Push(g, caps, 0, 3, 9)
	var all sync.WaitGroup
	for range 8 {
		all.Go(func() {
			for range 200 {
				f, n, err := push.Push(g, caps, 0, 3, 9)
				none, zero, err2 := push.Push(g, caps, 0, 0, 9)
				if !slices.Equal(f, want) || n != wantN || err != api.OK || len(none) != 0 || zero != 0 || err2 != api.ErrPushForm {
					t.Errorf("%v, %d, %d; %v, %d, %d", f, n, err, none, zero, err2)
				}
			}
		})
	}
	all.Wait()
}
