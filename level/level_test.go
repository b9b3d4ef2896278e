package level_test

import (
	"math"
	"math/rand"
	"slices"
	"sync"
	"testing"

	"tollbar/api"
	"tollbar/graph"
	"tollbar/level"
	"tollbar/samples"
)

const most = api.MaxRate

// sample is what is asked, and what is due.
type sample struct {
	name string
	g    api.Graph
	caps []int
	f    []int
	src  int
	want []int
}

// same gives as many of one number.
func same(n int, x int) []int {
	return slices.Repeat([]int{x}, n)
}

// lines: of as many vertices as may be.
func lines() []sample {
	long, n := samples.Line(), api.MaxVerts-1
	caps := same(n, 3)
	return []sample{
		{"a line", long, caps, same(n, 0), 0, []int{0, 1, 2, 3, 4, 5, 6, 7}},
		{"a line, from its midst", long, caps, same(n, 0), 3, []int{-1, -1, -1, 0, 1, 2, 3, 4}},
		{"a line, from its end", long, caps, same(n, 0), 7, []int{-1, -1, -1, -1, -1, -1, -1, 0}},
		{"a full line", long, caps, same(n, 3), 0, []int{0, -1, -1, -1, -1, -1, -1, -1}},
		{"a full line, from its midst", long, caps, same(n, 3), 3, []int{3, 2, 1, 0, -1, -1, -1, -1}},
		{"a full line, from its end", long, caps, same(n, 3), 7, []int{7, 6, 5, 4, 3, 2, 1, 0}},
		{"a line, one below full", long, caps, same(n, 2), 3, []int{3, 2, 1, 0, 1, 2, 3, 4}},
		{"a line with f of 1", long, caps, same(n, 1), 7, []int{7, 6, 5, 4, 3, 2, 1, 0}},
		{"a line that is full at one place", long, caps, []int{1, 1, 1, 3, 1, 1, 1}, 0, []int{0, 1, 2, 3, -1, -1, -1, -1}},
		{"a line that is empty at one place", long, caps, []int{1, 1, 1, 0, 1, 1, 1}, 7, []int{-1, -1, -1, -1, 3, 2, 1, 0}},
		{"a line with a cap of 0", long, []int{3, 3, 3, 3, 3, 0, 3}, same(n, 0), 0, []int{0, 1, 2, 3, 4, 5, -1, -1}},
		{"as many vertices and links as may be", samples.Full(), samples.Caps(samples.Full()), same(api.MaxLinks, 0), 1, []int{4, 0, 1, 1, 2, 2, 3, 3}},
		{"as many, full", samples.Full(), samples.Caps(samples.Full()), samples.Caps(samples.Full()), 1, []int{1, 0, 4, 3, 3, 2, 2, 1}},
		{"as many, some of it", samples.Full(), samples.Caps(samples.Full()), same(api.MaxLinks, 1), 1, []int{1, 0, 1, 1, 2, 2, 2, 1}},
		{"as many, caps of 0", samples.Full(), same(api.MaxLinks, 0), same(api.MaxLinks, 0), 1, []int{-1, 0, -1, -1, -1, -1, -1, -1}},
	}
}

// ends: arcs there and back at the edges of their room.
func ends() []sample {
	one := samples.Graph(2, [3]int{0, 1, 5})
	great := samples.Graph(2, [3]int{0, 1, most})
	return []sample{
		{"no links", samples.Graph(2), nil, nil, 0, []int{0, -1}},
		{"no links, empty lists", samples.Graph(3), []int{}, []int{}, 2, []int{-1, -1, 0}},
		{"no links, as many vertices as may be", samples.Graph(api.MaxVerts), nil, nil, 5, []int{-1, -1, -1, -1, -1, 0, -1, -1}},
		{"there, f of 0", one, []int{5}, []int{0}, 0, []int{0, 1}},
		{"there, one below its cap", one, []int{5}, []int{4}, 0, []int{0, 1}},
		{"there, its cap just reached", one, []int{5}, []int{5}, 0, []int{0, -1}},
		{"there, a cap below Cap, one below it", one, []int{3}, []int{2}, 0, []int{0, 1}},
		{"there, a cap below Cap, just reached", one, []int{3}, []int{3}, 0, []int{0, -1}},
		{"there, a cap of 0", one, []int{0}, []int{0}, 0, []int{0, -1}},
		{"back, f of 0", one, []int{5}, []int{0}, 1, []int{-1, 0}},
		{"back, f of 1", one, []int{5}, []int{1}, 1, []int{1, 0}},
		{"back, its cap just reached", one, []int{5}, []int{5}, 1, []int{1, 0}},
		{"back, a cap of 1, just reached", one, []int{1}, []int{1}, 1, []int{1, 0}},
		{"back, a cap of 0", one, []int{0}, []int{0}, 1, []int{-1, 0}},
		{"there, a Cap of 0", samples.Graph(2, [3]int{0, 1, 0}), []int{0}, []int{0}, 0, []int{0, -1}},
		{"there, MaxRate", great, []int{most}, []int{0}, 0, []int{0, 1}},
		{"there, one below MaxRate", great, []int{most}, []int{most - 1}, 0, []int{0, 1}},
		{"there, MaxRate just reached", great, []int{most}, []int{most}, 0, []int{0, -1}},
		{"back, MaxRate", great, []int{most}, []int{most}, 1, []int{1, 0}},
	}
}

// ways: several ways to one vertex, and links side by side.
func ways() []sample {
	// A square: from 0 to 3 over 1, over 2, and straight on over link 4.
	square := samples.Graph(4, [3]int{0, 1, 5}, [3]int{1, 3, 5}, [3]int{0, 2, 5}, [3]int{2, 3, 5}, [3]int{0, 3, 5})
	caps := same(5, 5)
	// The long way stands ahead of the short one among the links.
	long := samples.Graph(5, [3]int{0, 1, 5}, [3]int{1, 2, 5}, [3]int{2, 4, 5}, [3]int{0, 3, 5}, [3]int{3, 4, 5})
	side := samples.Graph(3, [3]int{0, 1, 5}, [3]int{0, 1, 4}, [3]int{0, 1, 0}, [3]int{1, 2, 2}, [3]int{1, 0, 3})
	sideCaps := samples.Caps(side)
	islands := samples.Graph(6, [3]int{0, 1, 1}, [3]int{2, 3, 1}, [3]int{3, 4, 1}, [3]int{4, 2, 1}, [3]int{3, 1, 1})
	return []sample{
		{"straight on", square, caps, same(5, 0), 0, []int{0, 1, 1, 1}},
		{"two ways of the same length", square, caps, []int{0, 0, 0, 0, 5}, 0, []int{0, 1, 1, 2}},
		{"the one of them is full", square, caps, []int{0, 5, 0, 0, 5}, 0, []int{0, 1, 1, 2}},
		{"the other is full", square, caps, []int{0, 0, 0, 5, 5}, 0, []int{0, 1, 1, 2}},
		{"all are full", square, caps, []int{0, 5, 0, 5, 5}, 0, []int{0, 1, 1, -1}},
		{"no arc back has room", square, caps, []int{5, 0, 5, 0, 0}, 3, []int{-1, -1, -1, 0}},
		{"to 2 over an arc back alone", square, caps, []int{0, 0, 5, 1, 0}, 0, []int{0, 1, 2, 1}},
		{"not to 2, where f is 0", square, caps, []int{0, 0, 5, 0, 0}, 0, []int{0, 1, -1, 1}},
		{"there, then back to two vertices", square, caps, []int{5, 5, 5, 2, 4}, 0, []int{0, 2, 2, 1}},
		{"gains that are no flow's", square, caps, []int{5, 0, 0, 5, 0}, 0, []int{0, -1, 1, 1}},
		{"gains that are no flow's, from 1", square, caps, []int{5, 0, 0, 5, 0}, 1, []int{1, 0, 2, 1}},
		{"just at the caps, from the end", square, caps, caps, 3, []int{1, 1, 1, 0}},
		{"just at the caps, from the beginning", square, caps, caps, 0, []int{0, -1, -1, -1}},
		{"two ways of unlike length", long, samples.Caps(long), same(5, 0), 0, []int{0, 1, 2, 1, 2}},
		{"the short way is full at its end", long, samples.Caps(long), []int{0, 0, 0, 0, 5}, 0, []int{0, 1, 2, 1, 3}},
		{"the short way is full at its beginning", long, samples.Caps(long), []int{0, 0, 0, 5, 0}, 0, []int{0, 1, 2, -1, 3}},
		{"to 3 over the long way and back", long, samples.Caps(long), []int{0, 0, 0, 5, 1}, 0, []int{0, 1, 2, 4, 3}},
		{"side by side", side, sideCaps, same(5, 0), 0, []int{0, 1, 2}},
		{"side by side, the first is full", side, sideCaps, []int{5, 0, 0, 0, 0}, 0, []int{0, 1, 2}},
		{"side by side, the second is full", side, sideCaps, []int{0, 4, 0, 0, 0}, 0, []int{0, 1, 2}},
		{"side by side, all are full", side, sideCaps, []int{5, 4, 0, 0, 0}, 0, []int{0, -1, -1}},
		{"side by side, but for one that goes the other way", side, sideCaps, []int{5, 4, 0, 0, 1}, 0, []int{0, 1, 2}},
		{"side by side, back over the second", side, sideCaps, []int{0, 1, 0, 1, 3}, 2, []int{2, 1, 0}},
		{"side by side, none back", side, sideCaps, []int{0, 0, 0, 1, 3}, 2, []int{-1, 1, 0}},
		{"side by side, back over the one that goes there", side, sideCaps, []int{0, 0, 0, 1, 2}, 2, []int{2, 1, 0}},
		{"vertices that only such ones lead to", islands, same(5, 1), same(5, 0), 0, []int{0, 1, -1, -1, -1, -1}},
		{"a round that leads out", islands, same(5, 1), same(5, 0), 4, []int{-1, 3, 1, 2, 0, -1}},
		{"a vertex that no links have", islands, same(5, 1), same(5, 1), 5, []int{-1, -1, -1, -1, -1, 0}},
		{"into the round over an arc back", islands, same(5, 1), []int{0, 0, 0, 0, 1}, 0, []int{0, 1, 4, 2, 3, -1}},
		{"round backwards", islands, same(5, 1), []int{0, 1, 1, 1, 1}, 0, []int{0, 1, 3, 2, 4, -1}},
	}
}

// towns: of one graph, from each of its vertices.
func towns() []sample {
	g, caps := samples.Town(), samples.Caps(samples.Town())
	zero, some := same(8, 0), []int{4, 3, 0, 0, 1, 1, 0, 0}
	return []sample{
		{"0 everywhere", g, caps, zero, 0, []int{0, 1, 2, 2}},
		{"0 everywhere", g, caps, zero, 1, []int{1, 0, 1, 1}},
		{"0 everywhere", g, caps, zero, 2, []int{2, 3, 0, 1}},
		{"0 everywhere", g, caps, zero, 3, []int{1, 2, 3, 0}},
		{"a flow", g, caps, some, 0, []int{0, 1, 3, 2}},
		{"a flow", g, caps, some, 1, []int{1, 0, 2, 1}},
		{"a flow", g, caps, some, 2, []int{2, 1, 0, 1}},
		{"a flow", g, caps, some, 3, []int{1, 1, 1, 0}},
		{"just at its caps", g, caps, caps, 0, []int{0, 1, 2, 1}},
		{"just at its caps", g, caps, caps, 1, []int{1, 0, 3, 2}},
		{"just at its caps", g, caps, caps, 2, []int{2, 1, 0, 3}},
		{"just at its caps", g, caps, caps, 3, []int{2, 1, 1, 0}},
		{"a flow just at its caps", g, some, some, 0, []int{0, -1, -1, -1}},
		{"a flow just at its caps", g, some, some, 1, []int{1, 0, -1, -1}},
		{"a flow just at its caps", g, some, some, 2, []int{2, 1, 0, -1}},
		{"a flow just at its caps", g, some, some, 3, []int{2, 1, 1, 0}},
		{"caps of 0", g, zero, zero, 2, []int{-1, -1, 0, -1}},
	}
}

func all() []sample {
	return slices.Concat(lines(), ends(), ways(), towns())
}

// P10.1, by hand.

func TestLevels(t *testing.T) {
	for _, x := range all() {
		if got, err := level.Levels(x.g, x.caps, x.f, x.src); !slices.Equal(got, x.want) || err != api.OK {
			t.Errorf("%s: Levels(%v, %v, %v, %d): %v, %d, want %v, OK", x.name, x.g, x.caps, x.f, x.src, got, err, x.want)
		}
	}
}

// P10.1, wrong inputs.

func TestLevelsOfWhatMayNotBe(t *testing.T) {
	refused := func(name string, g api.Graph, caps []int, f []int, src int) {
		t.Helper()
		if got, err := level.Levels(g, caps, f, src); len(got) != 0 || err != api.ErrLevelForm {
			t.Errorf("%s: Levels(%v, %v, %v, %d): %v, %d", name, g, caps, f, src, got, err)
		}
	}
	misfits := samples.BadMisfits()
	for _, x := range all() {
		for _, no := range samples.NoVerts(x.g) {
			refused("no vertex", x.g, x.caps, x.f, no)
		}
		misfits = append(misfits, samples.Misfits(x.g, x.caps)...)
	}
	for _, m := range misfits {
		for _, src := range []int{math.MinInt, -1, 0, 1, 3, 7, 8, math.MaxInt} {
			refused(m.Name, m.Graph, m.Caps, m.List, src)
		}
	}
}

// P10.1, against the words of the chapter.

// liesWithin: are they as many rates, none above its cap?
func liesWithin(f []int, caps []int) bool {
	if len(f) != len(caps) {
		return false
	}
	for i, x := range f {
		if x < 0 || x > most || x > caps[i] {
			return false
		}
	}
	return true
}

// onward gives the vertices to which arcs with room go from any of those at.
func onward(g api.Graph, caps []int, f []int, at map[int]bool) map[int]bool {
	next := map[int]bool{}
	for i, l := range g.Links {
		if at[l.From] && caps[i]-f[i] > 0 {
			next[l.To] = true
		}
		if at[l.To] && f[i] > 0 {
			next[l.From] = true
		}
	}
	return next
}

// levels says what Levels must: of how many arcs the shortest of all ways to a vertex is, whatever vertices they come to twice.
func levels(g api.Graph, caps []int, f []int, src int) ([]int, api.Errno) {
	if !graph.May(g) || !liesWithin(caps, samples.Caps(g)) || !liesWithin(f, caps) || src < 0 || src >= g.Verts {
		return nil, api.ErrLevelForm
	}
	list := same(g.Verts, -1)
	at := map[int]bool{src: true}
	for n := range 2 * api.MaxVerts {
		for v := range g.Verts {
			if at[v] && list[v] < 0 {
				list[v] = n
			}
		}
		at = onward(g, caps, f, at)
	}
	return list, api.OK
}

// check holds Levels against the words of the chapter, and gives what it answers.
func check(t *testing.T, g api.Graph, caps []int, f []int, src int) []int {
	t.Helper()
	want, wantErr := levels(g, caps, f, src)
	got, err := level.Levels(g, caps, f, src)
	if !slices.Equal(got, want) || err != wantErr {
		t.Errorf("Levels(%v, %v, %v, %d): %v, %d, want %v, %d", g, caps, f, src, got, err, want, wantErr)
	}
	return got
}

func TestFromEachVertex(t *testing.T) {
	for _, x := range all() {
		for src := -1; src <= x.g.Verts; src++ {
			check(t, x.g, x.caps, x.f, src)
			check(t, x.g, x.caps, x.caps, src)
			check(t, x.g, x.f, x.f, src)
			check(t, x.g, x.caps, same(len(x.caps), 0), src)
		}
	}
}

func TestAllSmallLists(t *testing.T) {
	round := samples.Graph(3, [3]int{0, 1, 2}, [3]int{1, 2, 1}, [3]int{2, 0, 2})
	split := samples.Graph(4, [3]int{0, 1, 2}, [3]int{1, 3, 2}, [3]int{3, 2, 2})
	broken := samples.Graph(3, [3]int{0, 1, 2}, [3]int{1, 1, 1}, [3]int{2, 0, 2})
	for _, caps := range [][]int{{2, 1, 2}, {1, 1, 0}, {0, 0, 0}, {2, 2, 2}, {2, 1}, {2, 1, 2, 0}} {
		for _, f := range samples.Lists([]int{-1, 0, 1, 2, 3}, 4) {
			for src := -1; src <= 4; src++ {
				check(t, round, caps, f, src)
				check(t, split, caps, f, src)
			}
			check(t, broken, caps, f, 0)
		}
	}
}

// All graphs of four vertices and up to three links, each link with room there alone, back alone, both ways or none.
func TestAllSmallGraphs(t *testing.T) {
	var kinds []int
	for n := range 16 {
		if n/4 != n%4 {
			kinds = append(kinds, n)
		}
	}
	rooms := samples.Lists([]int{0, 1, 2, 3}, 3)
	for _, links := range samples.Lists(kinds, 3) {
		g := api.Graph{Verts: 4}
		for _, n := range links {
			g.Links = append(g.Links, api.Link{From: n / 4, To: n % 4, Cap: 2})
		}
		for _, room := range rooms {
			if len(room) != len(links) {
				continue
			}
			caps, f := make([]int, len(room)), make([]int, len(room))
			for i, x := range room {
				caps[i], f[i] = x%2+x/2, x/2
			}
			check(t, g, caps, f, 0)
		}
	}
}

// fullOrNot makes a list that is 0 or its cap at most places, so that many arcs have no room.
func fullOrNot(r *rand.Rand, caps []int) []int {
	list := samples.DrawnBelow(r.Intn, caps)
	for i, c := range caps {
		if r.Intn(4) > 0 {
			list[i] = []int{0, c}[r.Intn(2)]
		}
	}
	return list
}

func TestWhateverLists(t *testing.T) {
	r := rand.New(rand.NewSource(10))
	far, parted := 0, 0
	for range 20000 {
		g := samples.Drawn(r.Intn, []int{1, 2, 6, most / api.MaxLinks}[r.Intn(4)])
		caps := samples.DrawnBelow(r.Intn, samples.Caps(g))
		got := check(t, g, caps, fullOrNot(r, caps), r.Intn(g.Verts+2)-1)
		if len(got) > 0 && slices.Max(got) >= 4 {
			far++
		}
		if slices.Contains(got, -1) && slices.Contains(got, 2) {
			parted++
		}
	}
	if far < 100 || parted < 1000 {
		t.Errorf("only %d went far, %d came to some vertices and not to others", far, parted)
	}
}

// R4: what is handed in is not changed, nor its spare room, nor kept; answers are new memory.

func TestWhatIsHandedInIsNotChanged(t *testing.T) {
	untouched := func(g api.Graph, caps []int, f []int, src int) {
		t.Helper()
		links, wholeLinks := samples.Roomy(g.Links, api.Link{From: -7, To: -8, Cap: -9})
		caps, wholeCaps := samples.Roomy(caps, -7)
		f, wholeList := samples.Roomy(f, -7)
		wasLinks, wasCaps, wasList := slices.Clone(wholeLinks), slices.Clone(wholeCaps), slices.Clone(wholeList)
		level.Levels(api.Graph{Verts: g.Verts, Links: links}, caps, f, src)
		if !slices.Equal(wholeLinks, wasLinks) || !slices.Equal(wholeCaps, wasCaps) || !slices.Equal(wholeList, wasList) {
			t.Errorf("changed: %v, %v, %v", wholeLinks, wholeCaps, wholeList)
		}
	}
	misfits := samples.BadMisfits()
	for _, x := range all() {
		for src := -1; src <= x.g.Verts; src++ {
			untouched(x.g, x.caps, x.f, src)
		}
		misfits = append(misfits, samples.Misfits(x.g, x.caps)...)
	}
	for _, m := range misfits {
		untouched(m.Graph, m.Caps, m.List, 0)
	}
}

func TestAnswersAreNewMemory(t *testing.T) {
	for _, x := range all() {
		links, caps, f := slices.Clone(x.g.Links), slices.Clone(x.caps), slices.Clone(x.f)
		g := api.Graph{Verts: x.g.Verts, Links: links}
		one, _ := level.Levels(g, caps, f, x.src)
		two, _ := level.Levels(g, caps, f, x.src)
		samples.Spoil(one)
		three, err := level.Levels(g, caps, f, x.src)
		if !slices.Equal(two, x.want) || !slices.Equal(three, x.want) || err != api.OK {
			t.Errorf("%s: %v, then %v, %d", x.name, two, three, err)
		}
		if !slices.Equal(links, x.g.Links) || !slices.Equal(caps, x.caps) || !slices.Equal(f, x.f) {
			t.Errorf("%s: the answer is %v, %v, %v", x.name, links, caps, f)
		}
	}
}

func TestWhatIsHandedInIsNotKept(t *testing.T) {
	for _, x := range all() {
		g := api.Graph{Verts: x.g.Verts, Links: slices.Clone(x.g.Links)}
		caps, f := slices.Clone(x.caps), slices.Clone(x.f)
		got, err := level.Levels(g, caps, f, x.src)
		for i := range g.Links {
			g.Links[i] = api.Link{From: 1, To: 0, Cap: 2}
			caps[i], f[i] = 2, 1
		}
		if !slices.Equal(got, x.want) || err != api.OK {
			t.Errorf("%s: the answer turned: %v, %d", x.name, got, err)
		}
		check(t, g, caps, f, 1)
		check(t, x.g, x.caps, x.f, x.src)
	}
}

// R5: from several goroutines at one time.

func TestFromSeveralGoroutines(t *testing.T) {
	g, caps, f := samples.Town(), samples.Caps(samples.Town()), []int{4, 3, 0, 0, 1, 1, 0, 0}
	var all sync.WaitGroup
	for range 8 {
		all.Go(func() {
			for range 200 {
				there, err := level.Levels(g, caps, f, 0)
				back, err2 := level.Levels(g, caps, f, 3)
				if !slices.Equal(there, []int{0, 1, 3, 2}) || !slices.Equal(back, []int{1, 1, 1, 0}) || err != api.OK || err2 != api.OK {
					t.Errorf("%v, %d from 0; %v, %d from 3", there, err, back, err2)
				}
			}
		})
	}
	all.Wait()
}
