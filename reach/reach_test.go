package reach_test

import (
	"math"
	"math/rand"
	"slices"
	"sync"
	"testing"

	"tollbar/api"
	"tollbar/level"
	"tollbar/push"
	"tollbar/reach"
	"tollbar/samples"
)

const most = api.MaxRate

// sample is what is asked, and what is due of Reach; of Shut each vertex that is not in it.
type sample struct {
	name string
	g    api.Graph
	caps []int
	f    []int
	src  int
	want []int
}

// same gives as many of one number.
func same(n int, x int) []int {
	return slices.Repeat([]int{x}, n)
}

// upTo gives the numbers from 0 on, below n.
func upTo(n int) []int {
	var list []int
	for i := range n {
		list = append(list, i)
	}
	return list
}

// lines: of as many vertices as may be.
func lines() []sample {
	line, n := samples.Line(), api.MaxVerts-1
	full, all := samples.Full(), upTo(api.MaxVerts)
	caps, fullCaps := samples.Caps(line), samples.Caps(full)
	return []sample{
		{"a line", line, caps, same(n, 0), 0, all},
		{"a line, from its midst", line, caps, same(n, 0), 3, []int{3, 4, 5, 6, 7}},
		{"a line, from its end", line, caps, same(n, 0), 7, []int{7}},
		{"a full line", line, caps, caps, 0, []int{0}},
		{"a full line, from its midst", line, caps, caps, 3, []int{0, 1, 2, 3}},
		{"a full line, from its end", line, caps, caps, 7, all},
		{"a line, one below full", line, caps, same(n, 2), 3, all},
		{"a line that is full at one place", line, caps, []int{1, 1, 1, 3, 1, 1, 1}, 0, []int{0, 1, 2, 3}},
		{"a line that is empty at one place", line, caps, []int{1, 1, 1, 0, 1, 1, 1}, 7, []int{4, 5, 6, 7}},
		{"a line with a cap of 0", line, []int{3, 3, 3, 3, 3, 0, 3}, same(n, 0), 0, []int{0, 1, 2, 3, 4, 5}},
		{"as many vertices and links as may be", full, fullCaps, same(api.MaxLinks, 0), 1, all},
		{"as many, full", full, fullCaps, fullCaps, 6, all},
		{"as many, caps of 0", full, same(api.MaxLinks, 0), same(api.MaxLinks, 0), 6, []int{6}},
		{"as many, of which the even ones lead on", full, append(same(8, 0), 9, 0, 9, 0, 9, 0, 9, 0), same(api.MaxLinks, 0), 4, []int{0, 2, 4, 6}},
		{"as many, of which the odd ones lead back", full, append(same(8, 0), 0, 9, 0, 9, 0, 9, 0, 9), append(same(8, 0), 0, 9, 0, 9, 0, 9, 0, 9), 3, []int{1, 3, 5, 7}},
	}
}

// ends: arcs there and back at the edges of their room.
func ends() []sample {
	one := samples.Graph(2, [3]int{0, 1, 5})
	great := samples.Graph(2, [3]int{0, 1, most})
	return []sample{
		{"no links", samples.Graph(2), nil, nil, 0, []int{0}},
		{"no links, empty lists", samples.Graph(3), []int{}, []int{}, 2, []int{2}},
		{"no links, as many vertices as may be", samples.Graph(api.MaxVerts), nil, nil, 7, []int{7}},
		{"there, f of 0", one, []int{5}, []int{0}, 0, []int{0, 1}},
		{"there, one below its cap", one, []int{5}, []int{4}, 0, []int{0, 1}},
		{"there, its cap just reached", one, []int{5}, []int{5}, 0, []int{0}},
		{"there, a cap below Cap, one below it", one, []int{3}, []int{2}, 0, []int{0, 1}},
		{"there, a cap below Cap, just reached", one, []int{3}, []int{3}, 0, []int{0}},
		{"there, a cap of 0", one, []int{0}, []int{0}, 0, []int{0}},
		{"back, f of 0", one, []int{5}, []int{0}, 1, []int{1}},
		{"back, f of 1", one, []int{5}, []int{1}, 1, []int{0, 1}},
		{"back, its cap just reached", one, []int{5}, []int{5}, 1, []int{0, 1}},
		{"back, a cap of 0", one, []int{0}, []int{0}, 1, []int{1}},
		{"there, a Cap of 0", samples.Graph(2, [3]int{0, 1, 0}), []int{0}, []int{0}, 0, []int{0}},
		{"there, one below MaxRate", great, []int{most}, []int{most - 1}, 0, []int{0, 1}},
		{"there, MaxRate just reached", great, []int{most}, []int{most}, 0, []int{0}},
		{"back, MaxRate", great, []int{most}, []int{most}, 1, []int{0, 1}},
	}
}

// ways: several ways to one vertex, and links side by side.
func ways() []sample {
	square := samples.Graph(4, [3]int{0, 1, 5}, [3]int{1, 3, 5}, [3]int{0, 2, 5}, [3]int{2, 3, 5}, [3]int{0, 3, 5})
	caps := same(5, 5)
	side := samples.Graph(3, [3]int{0, 1, 5}, [3]int{0, 1, 4}, [3]int{0, 1, 0}, [3]int{1, 2, 2}, [3]int{1, 0, 3})
	sideCaps := samples.Caps(side)
	islands := samples.Graph(6, [3]int{0, 1, 1}, [3]int{2, 3, 1}, [3]int{3, 4, 1}, [3]int{4, 2, 1}, [3]int{3, 1, 1})
	return []sample{
		{"several ways", square, caps, same(5, 0), 0, []int{0, 1, 2, 3}},
		{"all of them are full at their ends", square, caps, []int{0, 5, 0, 5, 5}, 0, []int{0, 1, 2}},
		{"the arcs into the source lead nowhere", square, caps, []int{5, 0, 5, 0, 0}, 3, []int{3}},
		{"to 2 over an arc back alone", square, caps, []int{0, 0, 5, 1, 0}, 0, []int{0, 1, 2, 3}},
		{"not to 2, where f is 0", square, caps, []int{0, 0, 5, 0, 0}, 0, []int{0, 1, 3}},
		{"there, then back to two vertices", square, caps, []int{5, 5, 5, 2, 4}, 0, []int{0, 1, 2, 3}},
		{"gains that are no flow's", square, caps, []int{5, 0, 0, 5, 0}, 0, []int{0, 2, 3}},
		{"just at the caps, from the end", square, caps, caps, 3, []int{0, 1, 2, 3}},
		{"just at the caps, from the beginning", square, caps, caps, 0, []int{0}},
		{"just at the caps, from 1: back alone", square, caps, caps, 1, []int{0, 1}},
		{"side by side", side, sideCaps, same(5, 0), 0, []int{0, 1, 2}},
		{"side by side, the first is full", side, sideCaps, []int{5, 0, 0, 0, 0}, 0, []int{0, 1, 2}},
		{"side by side, the second is full", side, sideCaps, []int{0, 4, 0, 0, 0}, 0, []int{0, 1, 2}},
		{"side by side, all are full", side, sideCaps, []int{5, 4, 0, 0, 0}, 0, []int{0}},
		{"side by side, but for one that goes the other way", side, sideCaps, []int{5, 4, 0, 0, 1}, 0, []int{0, 1, 2}},
		{"side by side, back over the second", side, sideCaps, []int{0, 1, 0, 1, 3}, 2, []int{0, 1, 2}},
		{"side by side, none back", side, sideCaps, []int{0, 0, 0, 1, 3}, 2, []int{1, 2}},
		{"vertices that only such ones lead to", islands, same(5, 1), same(5, 0), 0, []int{0, 1}},
		{"a round that leads out", islands, same(5, 1), same(5, 0), 4, []int{1, 2, 3, 4}},
		{"a vertex that no links have", islands, same(5, 1), same(5, 1), 5, []int{5}},
		{"into the round over an arc back", islands, same(5, 1), []int{0, 0, 0, 0, 1}, 0, []int{0, 1, 2, 3, 4}},
	}
}

// towns: of one graph, from each of its vertices.
func towns() []sample {
	g, caps, all := samples.Town(), samples.Caps(samples.Town()), upTo(4)
	zero, some := same(8, 0), []int{4, 3, 0, 0, 1, 1, 0, 0}
	return []sample{
		{"0 everywhere", g, caps, zero, 2, all},
		{"a flow", g, caps, some, 0, all},
		{"just at its caps", g, caps, caps, 1, all},
		{"a flow just at its caps", g, some, some, 0, []int{0}},
		{"a flow just at its caps", g, some, some, 1, []int{0, 1}},
		{"a flow just at its caps", g, some, some, 2, []int{0, 1, 2}},
		{"a flow just at its caps", g, some, some, 3, all},
		{"a greatest flow", g, caps, []int{5, 6, 0, 2, 1, 1, 0, 0}, 0, []int{0}},
		{"a flow of one below that", g, caps, []int{5, 6, 0, 1, 0, 0, 0, 0}, 0, all},
		{"caps of 0", g, zero, zero, 2, []int{2}},
	}
}

func all() []sample {
	return slices.Concat(lines(), ends(), ways(), towns())
}

// P13.1, by hand.

func TestReach(t *testing.T) {
	for _, x := range all() {
		if got, err := reach.Reach(x.g, x.caps, x.f, x.src); !slices.Equal(got, x.want) || err != api.OK {
			t.Errorf("%s: Reach(%v, %v, %v, %d): %v, %d, want %v, OK", x.name, x.g, x.caps, x.f, x.src, got, err, x.want)
		}
	}
}

func TestShut(t *testing.T) {
	for _, x := range all() {
		for dst := range x.g.Verts {
			want := !slices.Contains(x.want, dst)
			if got, err := reach.Shut(x.g, x.caps, x.f, x.src, dst); got != want || err != api.OK {
				t.Errorf("%s: Shut(%v, %v, %v, %d, %d): %t, %d, want %t, OK", x.name, x.g, x.caps, x.f, x.src, dst, got, err, want)
			}
		}
	}
}

func TestTheSourceIsNotShut(t *testing.T) {
	for _, x := range all() {
		for _, f := range [][]int{x.f, x.caps, same(len(x.caps), 0)} {
			for v := range x.g.Verts {
				if got, err := reach.Shut(x.g, x.caps, f, v, v); got || err != api.OK {
					t.Errorf("%s: Shut(%v, %v, %v, %d, %d): %t, %d", x.name, x.g, x.caps, f, v, v, got, err)
				}
			}
		}
	}
}

// P13.1, wrong inputs.

// refused holds both against an error, with nothing beside it.
func refused(t *testing.T, name string, g api.Graph, caps []int, f []int, src int, dst int) {
	t.Helper()
	if got, err := reach.Reach(g, caps, f, src); len(got) != 0 || err != api.ErrReachForm {
		t.Errorf("%s: Reach(%v, %v, %v, %d): %v, %d", name, g, caps, f, src, got, err)
	}
	if got, err := reach.Shut(g, caps, f, src, dst); got || err != api.ErrReachForm {
		t.Errorf("%s: Shut(%v, %v, %v, %d, %d): %t, %d", name, g, caps, f, src, dst, got, err)
	}
}

func TestOfWhatMayNotBe(t *testing.T) {
	misfits := samples.BadMisfits()
	for _, x := range all() {
		misfits = append(misfits, samples.Misfits(x.g, x.caps)...)
	}
	for _, m := range misfits {
		for _, v := range []int{math.MinInt, -1, 0, 1, 3, 7, 8, math.MaxInt} {
			refused(t, m.Name, m.Graph, m.Caps, m.List, v, 1)
			refused(t, m.Name, m.Graph, m.Caps, m.List, 0, v)
		}
	}
}

func TestOfNoVertices(t *testing.T) {
	for _, x := range all() {
		for _, no := range samples.NoVerts(x.g) {
			refused(t, "no source", x.g, x.caps, x.f, no, 0)
			refused(t, "no source", x.g, x.caps, x.f, no, 1)
			refused(t, "neither", x.g, x.caps, x.f, no, no)
			if got, err := reach.Shut(x.g, x.caps, x.f, x.src, no); got || err != api.ErrReachForm {
				t.Errorf("%s: Shut(%v, %v, %v, %d, %d): %t, %d", x.name, x.g, x.caps, x.f, x.src, no, got, err)
			}
		}
	}
}

// P13.1, against the words of the chapter.

// check holds both against layer 10's levels, and gives what Reach answers.
func check(t *testing.T, g api.Graph, caps []int, f []int, src int) []int {
	t.Helper()
	var want []int
	levels, refusal := level.Levels(g, caps, f, src)
	for v, n := range levels {
		if n >= 0 {
			want = append(want, v)
		}
	}
	got, err := reach.Reach(g, caps, f, src)
	if !slices.Equal(got, want) || (err == api.OK) != (refusal == api.OK) || err != api.OK && err != api.ErrReachForm {
		t.Errorf("Reach(%v, %v, %v, %d): %v, %d, levels %v, %d", g, caps, f, src, got, err, levels, refusal)
	}
	for dst := -1; dst <= max(g.Verts, 0); dst++ {
		shut, wantErr := false, api.ErrReachForm
		if refusal == api.OK && dst >= 0 && dst < g.Verts {
			shut, wantErr = levels[dst] == -1, api.OK
		}
		if got, err := reach.Shut(g, caps, f, src, dst); got != shut || err != wantErr {
			t.Errorf("Shut(%v, %v, %v, %d, %d): %t, %d, want %t, %d", g, caps, f, src, dst, got, err, shut, wantErr)
		}
	}
	return got
}

func TestFromEachVertex(t *testing.T) {
	for _, x := range all() {
		for src := -1; src <= x.g.Verts; src++ {
			check(t, x.g, x.caps, x.f, src)
			check(t, x.g, x.caps, x.caps, src)
			check(t, x.g, x.f, x.f, src)
			check(t, x.g, x.caps, same(len(x.caps), 0), src)
		}
	}
}

func TestAllSmallLists(t *testing.T) {
	round := samples.Graph(3, [3]int{0, 1, 2}, [3]int{1, 2, 1}, [3]int{2, 0, 2})
	split := samples.Graph(4, [3]int{0, 1, 2}, [3]int{1, 3, 2}, [3]int{3, 2, 2})
	broken := samples.Graph(3, [3]int{0, 1, 2}, [3]int{1, 1, 1}, [3]int{2, 0, 2})
	for _, caps := range [][]int{{2, 1, 2}, {1, 1, 0}, {0, 0, 0}, {2, 1}, {2, 1, 2, 0}} {
		for _, f := range samples.Lists([]int{-1, 0, 1, 2, 3}, 4) {
			for src := -1; src <= 4; src++ {
				check(t, round, caps, f, src)
				check(t, split, caps, f, src)
			}
			check(t, broken, caps, f, 0)
		}
	}
}

// fullOrNot makes a list that is 0 or its cap at most places, so that many arcs have no room.
func fullOrNot(r *rand.Rand, caps []int) []int {
	list := samples.DrawnBelow(r.Intn, caps)
	for i, c := range caps {
		if r.Intn(4) > 0 {
			list[i] = []int{0, c}[r.Intn(2)]
		}
	}
	return list
}

func TestWhateverLists(t *testing.T) {
	r := rand.New(rand.NewSource(13))
	alone, part, whole := 0, 0, 0
	for range 20000 {
		g := samples.Drawn(r.Intn, []int{1, 2, 6, most / api.MaxLinks}[r.Intn(4)])
		caps := samples.DrawnBelow(r.Intn, samples.Caps(g))
		got := check(t, g, caps, fullOrNot(r, caps), r.Intn(g.Verts+2)-1)
		switch len(got) {
		case 0:
		case 1:
			alone++
		case g.Verts:
			whole++
		default:
			part++
		}
	}
	if alone < 1000 || part < 1000 || whole < 1000 {
		t.Errorf("only %d reached themselves alone, %d a part, %d all", alone, part, whole)
	}
}

// Behind a greatest flow the sink is shut off, and the links that leave what is reached take just as much as flows.
func TestBehindAGreatestFlow(t *testing.T) {
	r := rand.New(rand.NewSource(131))
	flows := 0
	for range 3000 {
		g := samples.Drawn(r.Intn, 9)
		caps := samples.Caps(g)
		src := r.Intn(g.Verts)
		dst := (src + 1 + r.Intn(g.Verts-1)) % g.Verts
		f, n, _ := push.Push(g, caps, src, dst, most)
		vs, err := reach.Reach(g, caps, f, src)
		shut, err2 := reach.Shut(g, caps, f, src, dst)
		taken := 0
		for i, l := range g.Links {
			if slices.Contains(vs, l.From) && !slices.Contains(vs, l.To) {
				taken += caps[i]
			}
		}
		if !shut || taken != n || err != api.OK || err2 != api.OK {
			t.Errorf("%v, %v from %d to %d: %d flows; %v is reached, %d; %d leaves it; %t, %d", g, f, src, dst, n, vs, err, taken, shut, err2)
		}
		if n > 0 {
			flows++
		}
	}
	if flows < 500 {
		t.Errorf("only %d flows", flows)
	}
}

// R4: what is handed in is not changed, nor its spare room, nor kept; answers are new memory.

func TestWhatIsHandedInIsNotChanged(t *testing.T) {
	untouched := func(g api.Graph, caps []int, f []int, src int) {
		t.Helper()
		links, wholeLinks := samples.Roomy(g.Links, api.Link{From: -7, To: -8, Cap: -9})
		caps, wholeCaps := samples.Roomy(caps, -7)
		f, wholeList := samples.Roomy(f, -7)
		wasLinks, wasCaps, wasList := slices.Clone(wholeLinks), slices.Clone(wholeCaps), slices.Clone(wholeList)
		reach.Reach(api.Graph{Verts: g.Verts, Links: links}, caps, f, src)
		reach.Shut(api.Graph{Verts: g.Verts, Links: links}, caps, f, src, 1)
		if !slices.Equal(wholeLinks, wasLinks) || !slices.Equal(wholeCaps, wasCaps) || !slices.Equal(wholeList, wasList) {
			t.Errorf("changed: %v, %v, %v", wholeLinks, wholeCaps, wholeList)
		}
	}
	misfits := samples.BadMisfits()
	for _, x := range all() {
		for src := -1; src <= x.g.Verts; src++ {
			untouched(x.g, x.caps, x.f, src)
		}
		misfits = append(misfits, samples.Misfits(x.g, x.caps)...)
	}
	for _, m := range misfits {
		untouched(m.Graph, m.Caps, m.List, 0)
	}
}

func TestAnswersAreNewMemory(t *testing.T) {
	for _, x := range all() {
		links, caps, f := slices.Clone(x.g.Links), slices.Clone(x.caps), slices.Clone(x.f)
		g := api.Graph{Verts: x.g.Verts, Links: links}
		one, _ := reach.Reach(g, caps, f, x.src)
		two, _ := reach.Reach(g, caps, f, x.src)
		samples.Spoil(one)
		three, err := reach.Reach(g, caps, f, x.src)
		if !slices.Equal(two, x.want) || !slices.Equal(three, x.want) || err != api.OK {
			t.Errorf("%s: %v, then %v, %d", x.name, two, three, err)
		}
		if !slices.Equal(links, x.g.Links) || !slices.Equal(caps, x.caps) || !slices.Equal(f, x.f) {
			t.Errorf("%s: the answer is %v, %v, %v", x.name, links, caps, f)
		}
	}
}

func TestWhatIsHandedInIsNotKept(t *testing.T) {
	for _, x := range all() {
		g := api.Graph{Verts: x.g.Verts, Links: slices.Clone(x.g.Links)}
		caps, f := slices.Clone(x.caps), slices.Clone(x.f)
		got, err := reach.Reach(g, caps, f, x.src)
		for i := range g.Links {
			g.Links[i] = api.Link{From: 1, To: 0, Cap: 2}
			caps[i], f[i] = 2, 1
		}
		if !slices.Equal(got, x.want) || err != api.OK {
			t.Errorf("%s: the answer turned: %v, %d", x.name, got, err)
		}
		check(t, g, caps, f, 1)
		check(t, x.g, x.caps, x.f, x.src)
	}
}

// R5: from several goroutines at one time.

func TestFromSeveralGoroutines(t *testing.T) {
	g, caps := samples.Town(), []int{4, 3, 0, 0, 1, 1, 0, 0}
	var all sync.WaitGroup
	for range 8 {
		all.Go(func() {
			for range 200 {
				vs, err := reach.Reach(g, caps, caps, 2)
				shut, err2 := reach.Shut(g, caps, caps, 2, 3)
				if !slices.Equal(vs, []int{0, 1, 2}) || !shut || err != api.OK || err2 != api.OK {
					t.Errorf("%v, %d; %t, %d", vs, err, shut, err2)
				}
			}
		})
	}
	all.Wait()
}
