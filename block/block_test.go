package block_test

import (
	"math"
	"math/rand"
	"slices"
	"sync"
	"testing"

	"tollbar/api"
	"tollbar/arcs"
	"tollbar/block"
	"tollbar/level"
	"tollbar/samples"
	"tollbar/stream"
)

const great = api.MaxRate

// sample is what is asked, and what is due.
type sample struct {
	name string
	g    api.Graph
	caps []int
	f    []int
	src  int
	dst  int
	most int
	want []int
	n    int
}

// same gives as many of one number.
func same(n int, x int) []int {
	return slices.Repeat([]int{x}, n)
}

// lines: one way alone, as long as may be.
func lines() []sample {
	g, n := samples.Line(), api.MaxVerts-1
	caps, zero := same(n, 3), same(n, 0)
	narrow := []int{3, 3, 3, 2, 3, 3, 3}
	return []sample{
		{"most of 0", g, caps, zero, 0, 7, 0, zero, 0},
		{"most of 1", g, caps, zero, 0, 7, 1, same(n, 1), 1},
		{"one less than can be pushed", g, caps, zero, 0, 7, 2, same(n, 2), 2},
		{"just what can be pushed", g, caps, zero, 0, 7, 3, same(n, 3), 3},
		{"one more than can be pushed", g, caps, zero, 0, 7, 4, same(n, 3), 3},
		{"the greatest rate", g, caps, zero, 0, 7, great, same(n, 3), 3},
		{"some of it is there", g, caps, same(n, 1), 0, 7, great, same(n, 3), 2},
		{"some of it is there, one less", g, caps, same(n, 1), 0, 7, 1, same(n, 2), 1},
		{"just at its caps", g, caps, same(n, 3), 0, 7, great, same(n, 3), 0},
		{"just at its caps, most of 0", g, caps, same(n, 3), 0, 7, 0, same(n, 3), 0},
		{"a narrow place", g, narrow, zero, 0, 7, great, same(n, 2), 2},
		{"a narrow place, full", g, narrow, same(n, 2), 0, 7, great, same(n, 2), 0},
		{"a cap of 0", g, []int{3, 3, 3, 3, 3, 3, 0}, zero, 0, 7, great, zero, 0},
		{"caps of 0", g, zero, zero, 0, 7, great, zero, 0},
		{"against the links", g, caps, zero, 7, 0, great, zero, 0},
		{"a part of the line", g, caps, zero, 2, 5, great, []int{0, 0, 3, 3, 3, 0, 0}, 3},
		{"the next vertex", g, caps, zero, 6, 7, 2, []int{0, 0, 0, 0, 0, 0, 2}, 2},
		{"no links", samples.Graph(2), nil, nil, 0, 1, great, nil, 0},
		{"no links, most of 0", samples.Graph(3), nil, nil, 2, 0, 0, nil, 0},
		{"no links, empty lists", samples.Graph(api.MaxVerts), []int{}, []int{}, 7, 3, 5, nil, 0},
	}
}

// sides: two vertices, several links there and back.
func sides() []sample {
	one := samples.Graph(2, [3]int{0, 1, great})
	pair := samples.Graph(2, [3]int{0, 1, 5}, [3]int{1, 0, 3})
	many := samples.Graph(2, [3]int{0, 1, 5}, [3]int{0, 1, 4}, [3]int{1, 0, 3}, [3]int{0, 1, 0}, [3]int{0, 1, 2})
	caps := samples.Caps(many)
	return []sample{
		{"MaxRate", one, []int{great}, []int{0}, 0, 1, great, []int{great}, great},
		{"one below MaxRate", one, []int{great}, []int{0}, 0, 1, great - 1, []int{great - 1}, great - 1},
		{"one more makes MaxRate", one, []int{great}, []int{great - 1}, 0, 1, great, []int{great}, 1},
		{"MaxRate just reached", one, []int{great}, []int{great}, 0, 1, great, []int{great}, 0},
		{"from the link's end", one, []int{great}, []int{0}, 1, 0, great, []int{0}, 0},
		{"what comes back comes no more", pair, []int{5, 3}, []int{2, 2}, 0, 1, great, []int{5, 0}, 5},
		{"just so much", pair, []int{5, 3}, []int{2, 2}, 0, 1, 5, []int{5, 0}, 5},
		{"nothing but what comes back", pair, []int{2, 3}, []int{2, 2}, 0, 1, 1, []int{2, 1}, 1},
		{"back, against a round", pair, []int{5, 3}, []int{3, 3}, 1, 0, great, []int{0, 3}, 3},
		{"a cap below what the link takes", pair, []int{4, 0}, []int{0, 0}, 0, 1, great, []int{4, 0}, 4},
		{"side by side", many, caps, same(5, 0), 0, 1, great, []int{5, 4, 0, 0, 2}, 11},
		{"side by side, just so much", many, caps, same(5, 0), 0, 1, 11, []int{5, 4, 0, 0, 2}, 11},
		{"side by side, the first is full", many, caps, []int{5, 0, 0, 0, 0}, 0, 1, great, []int{5, 4, 0, 0, 2}, 6},
		{"side by side, all are full", many, caps, []int{5, 4, 0, 0, 2}, 0, 1, great, []int{5, 4, 0, 0, 2}, 0},
		{"side by side, but for what comes back", many, caps, []int{5, 4, 3, 0, 2}, 0, 1, great, []int{5, 4, 0, 0, 2}, 3},
		{"side by side, the other way", many, caps, same(5, 0), 1, 0, great, []int{0, 0, 3, 0, 0}, 3},
	}
}

// ways: of unlike length, over arcs back, that part and meet again, that lead nowhere.
func ways() []sample {
	// A square: from 0 to 3 over 1, over 2, and straight on over link 4.
	square := samples.Graph(4, [3]int{0, 1, 5}, [3]int{1, 3, 4}, [3]int{0, 2, 3}, [3]int{2, 3, 5}, [3]int{0, 3, 5})
	caps := samples.Caps(square)
	// From 0 to 3 over 1 and 2 goes what must make way.
	cross := samples.Graph(4, [3]int{0, 1, 2}, [3]int{1, 2, 2}, [3]int{2, 3, 2}, [3]int{0, 2, 2}, [3]int{1, 3, 2})
	// Over 1 and then over 2 or 3 to 4: the one way ends at a link that takes 1.
	meet := samples.Graph(5, [3]int{0, 1, 9}, [3]int{1, 2, 4}, [3]int{1, 3, 4}, [3]int{2, 4, 1}, [3]int{3, 4, 5})
	// 1 and 4 lead to 2, which leads nowhere, ahead of 3, which leads to 5.
	dead := samples.Graph(6, [3]int{0, 1, 5}, [3]int{1, 2, 5}, [3]int{0, 4, 5}, [3]int{4, 2, 5}, [3]int{1, 3, 4}, [3]int{4, 3, 5}, [3]int{3, 5, 9})
	// 5 leads on from 4, and is as far off as 6.
	beyond := samples.Graph(7, [3]int{0, 4, 3}, [3]int{4, 5, 3}, [3]int{5, 6, 3}, [3]int{0, 1, 2}, [3]int{1, 6, 2})
	islands := samples.Graph(6, [3]int{0, 1, 1}, [3]int{2, 3, 1}, [3]int{3, 4, 1}, [3]int{4, 2, 1}, [3]int{3, 1, 1})
	return []sample{
		{"straight on alone", square, caps, same(5, 0), 0, 3, great, []int{0, 0, 0, 0, 5}, 5},
		{"straight on, one less", square, caps, same(5, 0), 0, 3, 4, []int{0, 0, 0, 0, 4}, 4},
		{"straight on, one more", square, caps, same(5, 0), 0, 3, 6, []int{0, 0, 0, 0, 5}, 5},
		{"straight on, one is left", square, caps, []int{1, 1, 2, 2, 4}, 0, 3, great, []int{1, 1, 2, 2, 5}, 1},
		{"two ways of the same length", square, caps, []int{0, 0, 0, 0, 5}, 0, 3, great, []int{4, 4, 3, 3, 5}, 7},
		{"two ways, just so much", square, caps, []int{0, 0, 0, 0, 5}, 0, 3, 7, []int{4, 4, 3, 3, 5}, 7},
		{"two ways, the one is full", square, caps, []int{4, 4, 0, 0, 5}, 0, 3, great, []int{4, 4, 3, 3, 5}, 3},
		{"two ways, the other is full", square, caps, []int{0, 0, 3, 3, 5}, 0, 3, great, []int{4, 4, 3, 3, 5}, 4},
		{"all ways are full", square, caps, []int{4, 4, 3, 3, 5}, 0, 3, great, []int{4, 4, 3, 3, 5}, 0},
		{"no arcs to the sink", square, caps, same(5, 0), 1, 2, great, same(5, 0), 0},
		{"against all links", square, caps, same(5, 0), 3, 0, great, same(5, 0), 0},
		{"over an arc back", cross, []int{2, 2, 2, 2, 2}, []int{2, 2, 2, 0, 0}, 0, 3, great, []int{2, 0, 2, 2, 2}, 2},
		{"over an arc back, one less", cross, []int{2, 2, 2, 2, 2}, []int{2, 2, 2, 0, 0}, 0, 3, 1, []int{2, 1, 2, 1, 1}, 1},
		{"over an arc back that has 1", cross, []int{1, 2, 1, 2, 2}, []int{1, 1, 1, 0, 0}, 0, 3, great, []int{1, 0, 1, 1, 1}, 1},
		{"shorter ways beside an arc back", cross, []int{2, 2, 2, 2, 2}, []int{1, 1, 1, 0, 0}, 0, 3, great, []int{2, 1, 2, 1, 1}, 2},
		{"the shorter way is full", cross, []int{2, 2, 2, 2, 2}, []int{0, 0, 0, 2, 0}, 0, 2, great, []int{2, 2, 0, 2, 0}, 2},
		{"one way's last arc is full", meet, samples.Caps(meet), same(5, 0), 0, 4, great, []int{5, 1, 4, 1, 4}, 5},
		{"one way's last arc is full from the start", meet, samples.Caps(meet), []int{1, 1, 0, 1, 0}, 0, 4, great, []int{5, 1, 4, 1, 4}, 4},
		{"just what both ways take", meet, samples.Caps(meet), same(5, 0), 0, 4, 5, []int{5, 1, 4, 1, 4}, 5},
		{"ways that lead nowhere", dead, samples.Caps(dead), same(7, 0), 0, 5, great, []int{4, 0, 5, 0, 4, 5, 9}, 9},
		{"nothing goes on", dead, []int{5, 5, 5, 5, 4, 5, 0}, same(7, 0), 0, 5, great, same(7, 0), 0},
		{"ways that lead beyond the sink", beyond, samples.Caps(beyond), same(5, 0), 0, 6, great, []int{0, 0, 0, 2, 2}, 2},
		{"the longer way in its turn", beyond, samples.Caps(beyond), []int{0, 0, 0, 2, 2}, 0, 6, great, []int{3, 3, 3, 2, 2}, 3},
		{"a flow in another part", islands, same(5, 1), []int{0, 1, 1, 1, 0}, 0, 1, great, []int{1, 1, 1, 1, 0}, 1},
		{"to another part", islands, same(5, 1), []int{0, 1, 1, 1, 0}, 0, 5, great, []int{0, 1, 1, 1, 0}, 0},
		{"against a round", islands, same(5, 1), []int{0, 1, 1, 1, 0}, 4, 3, great, []int{0, 1, 0, 1, 0}, 1},
	}
}

// towns: of graphs with many links.
func towns() []sample {
	g, caps := samples.Town(), samples.Caps(samples.Town())
	full := samples.Full()
	each := great / api.MaxLinks
	return []sample{
		{"a town", g, caps, same(8, 0), 2, 0, 5, []int{0, 0, 4, 0, 0, 4, 0, 0}, 4},
		{"a flow in a town", g, caps, []int{4, 3, 0, 0, 1, 1, 0, 0}, 0, 3, 0, []int{4, 3, 0, 0, 1, 1, 0, 0}, 0},
		{"the rest of a town", g, caps, []int{5, 6, 0, 1, 0, 0, 0, 0}, 0, 3, great, []int{5, 6, 0, 2, 1, 1, 0, 0}, 1},
		{"a full town", g, caps, []int{5, 6, 0, 2, 1, 1, 0, 0}, 0, 3, great, []int{5, 6, 0, 2, 1, 1, 0, 0}, 0},
		{"as many links as may be", full, samples.Caps(full), same(api.MaxLinks, 0), 1, 2, great, []int{0, each, 0, 0, 0, 0, 0, 0, 0, 0, 0, 0, 0, 0, 0, 0}, each},
		{"as many links, two steps off", full, samples.Caps(full), same(api.MaxLinks, 0), 1, 5, great, []int{0, 0, 0, 0, 0, 0, 0, 0, 0, each, 0, each, 0, 0, 0, 0}, each},
		{"as many links, full", full, samples.Caps(full), samples.Caps(full), 1, 0, great, []int{0, each, each, each, each, each, each, each, each, each, each, each, each, each, each, each}, each},
		{"as many links, caps of 0", full, same(api.MaxLinks, 0), same(api.MaxLinks, 0), 1, 0, great, same(api.MaxLinks, 0), 0},
	}
}

func all() []sample {
	return slices.Concat(lines(), sides(), ways(), towns())
}

// P11.1, by hand: where one answer alone may be.

func TestBlock(t *testing.T) {
	for _, x := range all() {
		got, n, err := block.Block(x.g, x.caps, x.f, x.src, x.dst, x.most)
		if !slices.Equal(got, x.want) || n != x.n || err != api.OK {
			t.Errorf("%s: Block(%v, %v, %v, %d, %d, %d): %v, %d, %d, want %v, %d, OK", x.name, x.g, x.caps, x.f, x.src, x.dst, x.most, got, n, err, x.want, x.n)
		}
	}
}

// P11.1, wrong inputs.

func refused(t *testing.T, name string, g api.Graph, caps []int, f []int, src int, dst int, most int) {
	t.Helper()
	if got, n, err := block.Block(g, caps, f, src, dst, most); len(got) != 0 || n != 0 || err != api.ErrBlockForm {
		t.Errorf("%s: Block(%v, %v, %v, %d, %d, %d): %v, %d, %d", name, g, caps, f, src, dst, most, got, n, err)
	}
}

func TestBlockOfWhatMayNotBe(t *testing.T) {
	misfits := samples.BadMisfits()
	for _, x := range all() {
		for _, most := range []int{math.MinInt, -great, -1, great + 1, math.MaxInt} {
			refused(t, "no rate", x.g, x.caps, x.f, x.src, x.dst, most)
		}
		for _, most := range []int{-1, 0, 1, great} {
			for _, no := range samples.NoVerts(x.g) {
				refused(t, "src is no vertex", x.g, x.caps, x.f, no, x.dst, most)
				refused(t, "dst is no vertex", x.g, x.caps, x.f, x.src, no, most)
				refused(t, "neither is a vertex", x.g, x.caps, x.f, no, no, most)
			}
			for v := range x.g.Verts {
				refused(t, "src is dst", x.g, x.caps, x.f, v, v, most)
			}
		}
		misfits = append(misfits, samples.Misfits(x.g, x.caps)...)
	}
	for _, m := range misfits {
		for _, ends := range [][2]int{{0, 1}, {1, 0}, {0, 3}, {7, 0}, {-1, 1}, {1, 1}} {
			for _, most := range []int{-1, 0, 1, great} {
				refused(t, m.Name, m.Graph, m.Caps, m.List, ends[0], ends[1], most)
			}
		}
	}
}

func TestBlockOfWhatIsNoFlow(t *testing.T) {
	g, caps := samples.Town(), samples.Caps(samples.Town())
	for _, x := range []struct {
		name string
		f    []int
		src  int
		dst  int
	}{
		{"1 gains", []int{4, 4, 0, 0, 1, 1, 0, 0}, 0, 3},
		{"1 loses", []int{4, 2, 0, 0, 1, 1, 0, 0}, 0, 3},
		{"2 gains", []int{4, 3, 0, 0, 1, 2, 0, 0}, 0, 3},
		{"2 loses", []int{4, 3, 0, 0, 1, 0, 0, 0}, 0, 3},
		{"1 gains what 2 loses", []int{4, 4, 0, 0, 1, 0, 0, 0}, 0, 3},
		{"all that the links take", caps, 0, 3},
		{"below 0 at src", []int{4, 3, 0, 0, 1, 1, 0, 0}, 3, 0},
		{"below 0 at src by 1", []int{0, 0, 1, 0, 0, 0, 0, 0}, 0, 3},
		{"to another dst", []int{4, 3, 0, 0, 1, 1, 0, 0}, 0, 2},
		{"from another src", []int{4, 3, 0, 0, 1, 1, 0, 0}, 1, 3},
	} {
		for _, most := range []int{-1, 0, 1, 5, great, great + 1} {
			refused(t, x.name, g, caps, x.f, x.src, x.dst, most)
		}
	}
}

// P11.1, against the words of the chapter.

// stepping gives the arcs that step.
func stepping(g api.Graph, caps []int, f []int, src int) []int {
	levels, _ := level.Levels(g, caps, f, src)
	var all []int
	for v := range g.Verts {
		row, _ := arcs.Row(g, v)
		for _, arc := range row {
			room, _ := stream.Room(g, caps, f, arc)
			l := g.Links[arc/2]
			if room > 0 && levels[v] >= 0 && levels[l.From+l.To-v] == levels[v]+1 {
				all = append(all, arc)
			}
		}
	}
	return all
}

// waysOver gives all ways from src to dst over these arcs, if no such way goes on for ever.
func waysOver(g api.Graph, over []int, src int, dst int) [][]int {
	if src == dst {
		return [][]int{nil}
	}
	var all [][]int
	for _, arc := range over {
		tail, head := g.Links[arc/2].From, g.Links[arc/2].To
		if arc%2 == 1 {
			tail, head = head, tail
		}
		if tail != src {
			continue
		}
		for _, rest := range waysOver(g, over, head, dst) {
			all = append(all, append([]int{arc}, rest...))
		}
	}
	return all
}

// isShut: has the way an arc without Room in b?
func isShut(g api.Graph, caps []int, b []int, way []int) bool {
	for _, arc := range way {
		if room, err := stream.Room(g, caps, b, arc); room == 0 && err == api.OK {
			return true
		}
	}
	return false
}

// fault tells which of the chapter's words an answer breaks, if any.
func fault(g api.Graph, caps []int, f []int, src int, dst int, most int, b []int, n int) string {
	if n < 0 || n > most {
		return "how much is not at most most"
	}
	if !stream.May(g, caps, b, src, dst) {
		return "no flow within caps"
	}
	was, _ := stream.Value(g, f, src)
	if value, err := stream.Value(g, b, src); value != was+n || err != api.OK {
		return "its Value is not that of f and how much"
	}
	steps := stepping(g, caps, f, src)
	for i := range f {
		if b[i] > f[i] && !slices.Contains(steps, 2*i) {
			return "more on a link whose arc forward does not step"
		}
		if b[i] < f[i] && !slices.Contains(steps, 2*i+1) {
			return "less on a link whose arc back does not step"
		}
	}
	for _, way := range waysOver(g, steps, src, dst) {
		if n < most && !isShut(g, caps, b, way) {
			return "a way is open"
		}
	}
	return ""
}

// check holds Block against the words of the chapter, and gives what it answers.
func check(t *testing.T, g api.Graph, caps []int, f []int, src int, dst int, most int) ([]int, int) {
	t.Helper()
	b, n, err := block.Block(g, caps, f, src, dst, most)
	if !stream.May(g, caps, f, src, dst) || most < 0 || most > great {
		if len(b) != 0 || n != 0 || err != api.ErrBlockForm {
			t.Errorf("Block(%v, %v, %v, %d, %d, %d): %v, %d, %d, want ErrBlockForm", g, caps, f, src, dst, most, b, n, err)
		}
		return b, n
	}
	if err != api.OK {
		t.Errorf("Block(%v, %v, %v, %d, %d, %d): %d", g, caps, f, src, dst, most, err)
		return b, n
	}
	if why := fault(g, caps, f, src, dst, most, b, n); why != "" {
		t.Errorf("Block(%v, %v, %v, %d, %d, %d): %v, %d: %s", g, caps, f, src, dst, most, b, n, why)
	}
	return b, n
}

// The words of the chapter themselves: an answer that breaks one of them is found out.
func TestFault(t *testing.T) {
	g := samples.Graph(4, [3]int{0, 1, 2}, [3]int{1, 3, 2}, [3]int{0, 2, 2}, [3]int{2, 1, 2}, [3]int{0, 3, 1})
	caps, zero := samples.Caps(g), same(5, 0)
	round := []int{1, 0, 0, 0, 0}
	for _, x := range []struct {
		want string
		f    []int
		most int
		b    []int
		n    int
	}{
		{"", zero, 9, []int{0, 0, 0, 0, 1}, 1},
		{"", zero, 0, zero, 0},
		{"", []int{0, 0, 0, 0, 1}, 2, []int{2, 2, 0, 0, 1}, 2},
		{"", []int{0, 2, 2, 2, 1}, 2, []int{0, 2, 2, 2, 1}, 0},
		{"how much is not at most most", zero, 0, []int{0, 0, 0, 0, 1}, 1},
		{"how much is not at most most", zero, 1, zero, -1},
		{"no flow within caps", zero, 1, round, 1},
		{"no flow within caps", zero, 2, []int{0, 0, 0, 0, 2}, 2},
		{"no flow within caps", zero, 2, nil, 0},
		{"its Value is not that of f and how much", zero, 1, zero, 1},
		{"its Value is not that of f and how much", zero, 1, []int{0, 0, 0, 0, 1}, 0},
		{"more on a link whose arc forward does not step", zero, 1, []int{1, 1, 0, 0, 0}, 1},
		{"less on a link whose arc back does not step", []int{0, 1, 1, 1, 0}, 1, []int{0, 0, 0, 0, 1}, 0},
		{"a way is open", zero, 1, zero, 0},
		{"a way is open", []int{0, 0, 0, 0, 1}, 2, []int{1, 1, 0, 0, 1}, 1},
	} {
		if got := fault(g, caps, x.f, 0, 3, x.most, x.b, x.n); got != x.want {
			t.Errorf("%v, %d of %v, %d: %q, want %q", x.b, x.n, x.f, x.most, got, x.want)
		}
	}
}

// Ways that part and meet again, so that several answers may be.
func TestWaysThatMeet(t *testing.T) {
	town := samples.Town()
	// Two times over one of two vertices, from 0 to 5.
	twice := samples.Graph(6, [3]int{0, 1, 4}, [3]int{0, 2, 4}, [3]int{1, 3, 3}, [3]int{1, 4, 3}, [3]int{2, 3, 3}, [3]int{2, 4, 3}, [3]int{3, 5, 4}, [3]int{4, 5, 4})
	// As many links as may be, three ranks of two between 0 and 7.
	ranks := samples.Graph(8, [3]int{0, 1, 9}, [3]int{0, 2, 9}, [3]int{1, 3, 2}, [3]int{1, 4, 2}, [3]int{2, 3, 2}, [3]int{2, 4, 2}, [3]int{3, 5, 3}, [3]int{3, 6, 1}, [3]int{4, 5, 1}, [3]int{4, 6, 3}, [3]int{5, 7, 9}, [3]int{6, 7, 9}, [3]int{0, 1, 9}, [3]int{5, 7, 1}, [3]int{1, 3, 1}, [3]int{4, 6, 1})
	for _, x := range []struct {
		g    api.Graph
		src  int
		dst  int
		low  int
		high int
	}{
		{town, 0, 3, 6, 6},
		{twice, 0, 5, 4, 8},
		{ranks, 0, 7, 4, 9},
	} {
		caps, zero := samples.Caps(x.g), make([]int, len(x.g.Links))
		for most := range 12 {
			_, n := check(t, x.g, caps, zero, x.src, x.dst, most)
			if n < min(most, x.low) || n > x.high {
				t.Errorf("%v: %d of most %d", x.g, n, most)
			}
		}
		check(t, x.g, caps, zero, x.src, x.dst, great)
	}
}

// Between each two vertices, with each most near to what can be pushed.
func TestBetweenAllVertices(t *testing.T) {
	for _, x := range all() {
		for src := -1; src <= x.g.Verts; src++ {
			for dst := -1; dst <= x.g.Verts; dst++ {
				check(t, x.g, x.caps, x.f, src, dst, great)
				_, n := check(t, x.g, x.caps, make([]int, len(x.f)), src, dst, great)
				for _, most := range []int{-1, 0, 1, n - 1, n, n + 1} {
					check(t, x.g, x.caps, make([]int, len(x.f)), src, dst, most)
				}
			}
		}
	}
}

// All caps and flows of small rates, from 0 to 3: f may be no flow.
func TestAllSmallLists(t *testing.T) {
	g := samples.Graph(4, [3]int{0, 1, 2}, [3]int{1, 3, 2}, [3]int{0, 2, 2}, [3]int{2, 3, 2}, [3]int{1, 2, 2})
	flows, back := 0, 0
	for _, caps := range samples.Lists([]int{0, 1, 2}, 5) {
		for _, f := range samples.Lists([]int{0, 1, 2}, 5) {
			if !stream.May(g, caps, f, 0, 3) {
				continue
			}
			flows++
			for most := range 5 {
				if b, _ := check(t, g, caps, f, 0, 3, most); b[4] < f[4] {
					back++
				}
			}
		}
	}
	if flows < 500 || back < 10 {
		t.Errorf("only %d flows, %d times back", flows, back)
	}
}

// All graphs of four vertices and up to three links, with all flows of small rates.
func TestAllSmallGraphs(t *testing.T) {
	lists := samples.Lists([]int{0, 1, 2}, 3)
	for _, g := range samples.Small(3, 2) {
		for _, f := range lists {
			if caps := samples.Caps(g); stream.May(g, caps, f, 0, 3) {
				check(t, g, caps, f, 0, 3, 3)
			}
		}
	}
}

func TestWhateverFlows(t *testing.T) {
	r := rand.New(rand.NewSource(11))
	whole, short, less, none := 0, 0, 0, 0
	for range 10000 {
		g := samples.Drawn(r.Intn, []int{2, 6, 1000, great / api.MaxLinks}[r.Intn(4)])
		caps := samples.Caps(g)
		src := r.Intn(g.Verts)
		dst := (src + 1 + r.Intn(g.Verts-1)) % g.Verts
		f := samples.DrawnFlow(r.Intn, g, caps, src, dst)
		most := []int{r.Intn(4), r.Intn(2000), great - r.Intn(2)}[r.Intn(3)]
		b, n := check(t, g, caps, f, src, dst, most)
		switch {
		case n == 0:
			none++
		case n == most:
			whole++
		default:
			short++
		}
		for i := range b {
			if b[i] < f[i] {
				less++
			}
		}
	}
	if whole < 500 || short < 500 || less < 500 || none < 500 {
		t.Errorf("only %d whole, %d short, %d less, %d none", whole, short, less, none)
	}
}

func TestWhateverLists(t *testing.T) {
	r := rand.New(rand.NewSource(111))
	for range 10000 {
		g := samples.Drawn(r.Intn, []int{1, 2, 6, great / api.MaxLinks}[r.Intn(4)])
		caps := samples.DrawnBelow(r.Intn, samples.Caps(g))
		f := samples.DrawnBelow(r.Intn, caps)
		check(t, g, caps, f, r.Intn(g.Verts+2)-1, r.Intn(g.Verts+2)-1, r.Intn(6)-1)
	}
}

// One behind the other, until nothing can be pushed: that is the greatest flow, as the least cut is worth.
func TestOneBehindTheOther(t *testing.T) {
	r := rand.New(rand.NewSource(1111))
	for range 1000 {
		g := samples.Drawn(r.Intn, 20)
		caps := samples.Caps(g)
		f, all, n := make([]int, len(caps)), 0, 1
		for times := 0; n > 0; times++ {
			if times > api.MaxVerts {
				t.Fatalf("%v: no end", g)
			}
			f, n = check(t, g, caps, f, 0, 1, great)
			all += n
		}
		if least := samples.LeastCut(g, caps, 0, 1); all != least {
			t.Errorf("%v: %v of Value %d, want %d", g, f, all, least)
		}
	}
}

// R4: what is handed in is not changed, nor its spare room, nor kept; answers are new memory.

func TestWhatIsHandedInIsNotChanged(t *testing.T) {
	untouched := func(g api.Graph, caps []int, f []int, src int, dst int, most int) {
		t.Helper()
		links, wholeLinks := samples.Roomy(g.Links, api.Link{From: -7, To: -8, Cap: -9})
		caps, wholeCaps := samples.Roomy(caps, -7)
		f, wholeList := samples.Roomy(f, -7)
		wasLinks, wasCaps, wasList := slices.Clone(wholeLinks), slices.Clone(wholeCaps), slices.Clone(wholeList)
		block.Block(api.Graph{Verts: g.Verts, Links: links}, caps, f, src, dst, most)
		if !slices.Equal(wholeLinks, wasLinks) || !slices.Equal(wholeCaps, wasCaps) || !slices.Equal(wholeList, wasList) {
			t.Errorf("changed: %v, %v, %v", wholeLinks, wholeCaps, wholeList)
		}
	}
	misfits := samples.BadMisfits()
	for _, x := range all() {
		for _, most := range []int{-1, 0, 1, x.most} {
			untouched(x.g, x.caps, x.f, x.src, x.dst, most)
			untouched(x.g, x.caps, x.f, x.dst, x.src, most)
		}
		misfits = append(misfits, samples.Misfits(x.g, x.caps)...)
	}
	for _, m := range misfits {
		untouched(m.Graph, m.Caps, m.List, 0, 1, 1)
	}
}

func TestAnswersAreNewMemory(t *testing.T) {
	for _, x := range all() {
		links, caps, f := slices.Clone(x.g.Links), slices.Clone(x.caps), slices.Clone(x.f)
		g := api.Graph{Verts: x.g.Verts, Links: links}
		one, _, _ := block.Block(g, caps, f, x.src, x.dst, x.most)
		two, _, _ := block.Block(g, caps, f, x.src, x.dst, x.most)
		samples.Spoil(one)
		three, n, err := block.Block(g, caps, f, x.src, x.dst, x.most)
		if !slices.Equal(two, x.want) || !slices.Equal(three, x.want) || n != x.n || err != api.OK {
			t.Errorf("%s: %v, then %v, %d, %d", x.name, two, three, n, err)
		}
		if !slices.Equal(links, x.g.Links) || !slices.Equal(caps, x.caps) || !slices.Equal(f, x.f) {
			t.Errorf("%s: the answer is %v, %v, %v", x.name, links, caps, f)
		}
	}
}

func TestWhatIsHandedInIsNotKept(t *testing.T) {
	for _, x := range all() {
		g := api.Graph{Verts: x.g.Verts, Links: slices.Clone(x.g.Links)}
		caps, f := slices.Clone(x.caps), slices.Clone(x.f)
		got, n, err := block.Block(g, caps, f, x.src, x.dst, x.most)
		for i := range g.Links {
			g.Links[i] = api.Link{From: 1, To: 0, Cap: 2}
			caps[i], f[i] = 2, 1
		}
		if !slices.Equal(got, x.want) || n != x.n || err != api.OK {
			t.Errorf("%s: the answer turned: %v, %d, %d", x.name, got, n, err)
		}
		check(t, g, caps, f, 1, 0, great)
		check(t, x.g, x.caps, x.f, x.src, x.dst, x.most)
	}
}

// R5: the same answer each time, from several goroutines at one time.

func TestFromSeveralGoroutines(t *testing.T) {
	g, caps, f := samples.Town(), samples.Caps(samples.Town()), same(8, 0)
	want, wantN, _ := block.Block(g, caps, f, 0, 3, 5)
	var all sync.WaitGroup
	for range 8 {
		all.Go(func() {
			for range 200 {
				b, n, err := block.Block(g, caps, f, 0, 3, 5)
				none, zero, err2 := block.Block(g, caps, f, 0, 0, 5)
				if !slices.Equal(b, want) || n != wantN || err != api.OK || len(none) != 0 || zero != 0 || err2 != api.ErrBlockForm {
					t.Errorf("%v, %d, %d; %v, %d, %d", b, n, err, none, zero, err2)
				}
			}
		})
	}
	all.Wait()
}
