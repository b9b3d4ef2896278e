package stream_test

import (
	"math"
	"math/big"
	"math/rand"
	"slices"
	"sync"
	"testing"

	"tollbar/api"
	"tollbar/graph"
	"tollbar/samples"
	"tollbar/stream"
)

const most = api.MaxRate

// current is a list that lies within caps, and the gain of each vertex.
type current struct {
	name  string
	g     api.Graph
	caps  []int
	f     []int
	gains []int
}

// currents: lists of which some are flows, between some vertices.
func currents() []current {
	town, townCaps := samples.Town(), samples.Caps(samples.Town())
	line := samples.Graph(3, [3]int{0, 1, 5}, [3]int{1, 2, 6})
	ways := samples.Graph(2, [3]int{0, 1, 5}, [3]int{0, 1, 4}, [3]int{1, 0, 3}, [3]int{0, 1, 0})
	wide := samples.Graph(3, [3]int{0, 1, most / 2}, [3]int{0, 1, most/2 - 1}, [3]int{0, 2, 1})
	return []current{
		{"0 everywhere", town, townCaps, make([]int, 8), []int{0, 0, 0, 0}},
		{"0 everywhere, caps of 0", town, make([]int, 8), make([]int, 8), []int{0, 0, 0, 0}},
		{"two ways", town, townCaps, []int{4, 3, 0, 0, 1, 1, 0, 0}, []int{4, 0, 0, -4}},
		{"links side by side", town, townCaps, []int{4, 5, 0, 2, 1, 1, 0, 0}, []int{6, 0, 0, -6}},
		{"just at its caps", town, []int{4, 5, 0, 2, 1, 1, 0, 0}, []int{4, 5, 0, 2, 1, 1, 0, 0}, []int{6, 0, 0, -6}},
		{"some of it back", town, townCaps, []int{5, 3, 2, 0, 1, 1, 1, 0}, []int{2, 0, 0, -2}},
		{"a cycle alone", town, townCaps, []int{2, 2, 2, 0, 0, 0, 0, 0}, []int{0, 0, 0, 0}},
		{"two cycles", town, townCaps, []int{4, 1, 1, 0, 0, 0, 3, 0}, []int{0, 0, 0, 0}},
		{"from 3 to 0", town, townCaps, []int{0, 0, 3, 0, 0, 0, 0, 0}, []int{-3, 0, 0, 3}},
		{"from 1 to 2 over a cycle", town, townCaps, []int{1, 1, 1, 0, 1, 0, 0, 0}, []int{0, 1, -1, 0}},
		{"1 gains", town, townCaps, []int{4, 4, 0, 0, 1, 1, 0, 0}, []int{4, 1, 0, -5}},
		{"1 loses", town, townCaps, []int{4, 2, 0, 0, 1, 1, 0, 0}, []int{4, -1, 0, -3}},
		{"2 gains", town, townCaps, []int{4, 3, 0, 0, 1, 2, 0, 0}, []int{4, 0, 1, -5}},
		{"2 loses", town, townCaps, []int{4, 3, 0, 0, 1, 0, 0, 0}, []int{4, 0, -1, -3}},
		{"1 gains what 2 loses", town, townCaps, []int{4, 4, 0, 0, 1, 0, 0, 0}, []int{4, 1, -1, -4}},
		{"all that the links take", town, townCaps, townCaps, []int{-3, 3, 3, -3}},
		{"a line", line, []int{5, 6}, []int{5, 5}, []int{5, 0, -5}},
		{"a line that loses", line, []int{5, 6}, []int{5, 4}, []int{5, -1, -4}},
		{"a line that begins late", line, []int{5, 6}, []int{0, 6}, []int{0, 6, -6}},
		{"several links there and back", ways, []int{5, 4, 3, 0}, []int{5, 4, 3, 0}, []int{6, -6}},
		{"more back than there", ways, []int{5, 4, 3, 0}, []int{1, 0, 3, 0}, []int{-2, 2}},
		{"as much back as there", ways, []int{5, 4, 3, 0}, []int{1, 2, 3, 0}, []int{0, 0}},
		{"no links", samples.Graph(2), nil, nil, []int{0, 0}},
		{"no links, empty lists", samples.Graph(3), []int{}, []int{}, []int{0, 0, 0}},
		{"MaxRate", samples.Graph(2, [3]int{1, 0, most}), []int{most}, []int{most}, []int{-most, most}},
		{"MaxRate together", wide, samples.Caps(wide), samples.Caps(wide), []int{most, 1 - most, -1}},
		{"as many vertices and links as may be", samples.Full(), samples.Caps(samples.Full()), samples.Caps(samples.Full()), make([]int, 8)},
	}
}

// isFlow: is it a flow from src to dst, by its gains?
func (c current) isFlow(src int, dst int) bool {
	for v, gain := range c.gains {
		if v != src && v != dst && gain != 0 {
			return false
		}
	}
	return src != dst && c.gains[src] >= 0
}

// P9.1: May.

func TestMay(t *testing.T) {
	flows := 0
	for _, c := range currents() {
		for src := range c.g.Verts {
			for dst := range c.g.Verts {
				want := c.isFlow(src, dst)
				if want {
					flows++
				}
				if got := stream.May(c.g, c.caps, c.f, src, dst); got != want {
					t.Errorf("%s: May from %d to %d: %t", c.name, src, dst, got)
				}
				if got := stream.May(c.g, c.f, c.f, src, dst); got != want {
					t.Errorf("%s: May within itself from %d to %d: %t", c.name, src, dst, got)
				}
			}
		}
	}
	if flows < 50 {
		t.Errorf("only %d flows", flows)
	}
}

// Those that the gains in the table say, once more by hand.
func TestMayByHand(t *testing.T) {
	g, caps := samples.Town(), samples.Caps(samples.Town())
	for _, x := range []struct {
		f    []int
		src  int
		dst  int
		want bool
	}{
		{make([]int, 8), 0, 3, true},
		{make([]int, 8), 3, 0, true},
		{make([]int, 8), 0, 0, false},
		{[]int{4, 3, 0, 0, 1, 1, 0, 0}, 0, 3, true},
		{[]int{4, 3, 0, 0, 1, 1, 0, 0}, 3, 0, false},
		{[]int{4, 3, 0, 0, 1, 1, 0, 0}, 0, 2, false},
		{[]int{4, 3, 0, 0, 1, 1, 0, 0}, 1, 3, false},
		{[]int{4, 3, 0, 0, 1, 1, 0, 0}, 0, 0, false},
		{[]int{5, 4, 0, 0, 1, 1, 0, 0}, 0, 3, true},
		{[]int{6, 5, 0, 0, 1, 1, 0, 0}, 0, 3, false},
		{[]int{4, 4, 0, 0, 1, 1, 0, 0}, 0, 3, false},
		{[]int{4, 2, 0, 0, 1, 1, 0, 0}, 0, 3, false},
		{[]int{0, 0, 3, 0, 0, 0, 0, 0}, 0, 3, false},
		{[]int{0, 0, 3, 0, 0, 0, 0, 0}, 3, 0, true},
		{[]int{2, 2, 2, 0, 0, 0, 0, 0}, 1, 2, true},
		{[]int{2, 2, 2, 0, 0, 0, 0, 0}, 2, 1, true},
		{[]int{2, 2, 2, 0, 0, 0, 0, 0}, 2, 2, false},
		{[]int{-1, -1, -1, 0, 0, 0, 0, 0}, 0, 3, false},
		{[]int{0, 1, 0, 0, 0, 0, -1, 0}, 0, 3, false},
	} {
		if got := stream.May(g, caps, x.f, x.src, x.dst); got != x.want {
			t.Errorf("May(%v, %d, %d): %t", x.f, x.src, x.dst, got)
		}
	}
}

// What counts are the caps that are handed in, of each link.
func TestMayOfEachCap(t *testing.T) {
	for _, c := range currents() {
		for i, x := range c.f {
			caps := slices.Clone(c.caps)
			caps[i] = x
			if got := stream.May(c.g, caps, c.f, 0, 1); got != c.isFlow(0, 1) {
				t.Errorf("%s: May(%v, %v): %t", c.name, caps, c.f, got)
			}
			caps[i]--
			if stream.May(c.g, caps, c.f, 0, 1) || stream.May(c.g, caps, c.f, 0, c.g.Verts-1) {
				t.Errorf("%s: May(%v, %v), one above its cap", c.name, caps, c.f)
			}
		}
	}
}

func TestMayOfWhatMayNotBe(t *testing.T) {
	refused := func(name string, g api.Graph, caps []int, f []int, src int, dst int) {
		t.Helper()
		if stream.May(g, caps, f, src, dst) {
			t.Errorf("%s: May(%v, %v, %v, %d, %d)", name, g, caps, f, src, dst)
		}
	}
	for _, c := range currents() {
		zero := make([]int, len(c.g.Links))
		for _, no := range samples.NoVerts(c.g) {
			refused("no source", c.g, c.caps, zero, no, 1)
			refused("no sink", c.g, c.caps, zero, 0, no)
			refused("neither", c.g, c.caps, zero, no, no)
			refused("neither", c.g, c.caps, zero, no, -2)
		}
	}
	for _, w := range wrongs() {
		refused(w.Name, w.Graph, w.Caps, w.List, 0, 1)
		refused(w.Name, w.Graph, w.Caps, w.List, 1, 0)
		refused(w.Name, w.Graph, w.Caps, w.List, 0, 3)
		refused(w.Name, w.Graph, w.Caps, w.List, 3, 0)
		refused(w.Name, w.Graph, w.Caps, w.List, -1, 9)
	}
}

// P9.1: Value.

func TestValue(t *testing.T) {
	for _, c := range currents() {
		for v, gain := range c.gains {
			if got, err := stream.Value(c.g, c.f, v); got != gain || err != api.OK {
				t.Errorf("%s: Value of %d: %d, %d, want %d, OK", c.name, v, got, err, gain)
			}
		}
	}
}

func TestValueOfWhatMayNotBe(t *testing.T) {
	refused := func(name string, g api.Graph, f []int, src int) {
		t.Helper()
		if got, err := stream.Value(g, f, src); got != 0 || err != api.ErrStreamForm {
			t.Errorf("%s: Value(%v, %v, %d): %d, %d", name, g, f, src, got, err)
		}
	}
	for _, c := range currents() {
		for _, no := range samples.NoVerts(c.g) {
			refused("no vertex", c.g, c.f, no)
		}
		for _, f := range samples.Outside(samples.Caps(c.g)) {
			for src := -1; src <= c.g.Verts; src++ {
				refused("not within its Caps", c.g, f, src)
			}
		}
	}
	for _, b := range samples.BadGraphs() {
		for _, f := range [][]int{nil, {}, make([]int, len(b.Graph.Links)), samples.Caps(b.Graph), {-1}} {
			for _, src := range []int{-1, 0, 1, 3, 9, math.MaxInt} {
				refused(b.Name, b.Graph, f, src)
			}
		}
	}
}

// P9.2: Room.

func TestRoom(t *testing.T) {
	g, caps := samples.Town(), []int{5, 4, 7, 2, 0, 4, 3, 0}
	f := []int{4, 4, 0, 1, 0, 3, 0, 0}
	for arc, want := range []int{1, 4, 0, 4, 7, 0, 1, 1, 0, 0, 1, 3, 3, 0, 0, 0} {
		if got, err := stream.Room(g, caps, f, arc); got != want || err != api.OK {
			t.Errorf("Room of %d: %d, %d, want %d, OK", arc, got, err, want)
		}
	}
	great := samples.Graph(2, [3]int{0, 1, most})
	for _, x := range []struct{ f, arc, want int }{{0, 0, most}, {0, 1, 0}, {most, 0, 0}, {most, 1, most}, {1, 0, most - 1}, {1, 1, 1}} {
		if got, err := stream.Room(great, []int{most}, []int{x.f}, x.arc); got != x.want || err != api.OK {
			t.Errorf("Room of %d where it is %d: %d, %d, want %d, OK", x.arc, x.f, got, err, x.want)
		}
	}
}

// Gains are not asked: of whatever lies within caps each arc has its room.
func TestRoomOfAllArcs(t *testing.T) {
	for _, c := range currents() {
		for i, x := range c.f {
			there, err := stream.Room(c.g, c.caps, c.f, 2*i)
			back, err2 := stream.Room(c.g, c.caps, c.f, 2*i+1)
			if there != c.caps[i]-x || back != x || err != api.OK || err2 != api.OK {
				t.Errorf("%s: Room of link %d: %d there, %d back", c.name, i, there, back)
			}
		}
	}
}

// noArcs: numbers that are none of the graph.
func noArcs(g api.Graph) []int {
	return []int{math.MinInt, -2, -1, 2 * len(g.Links), 2*len(g.Links) + 1, math.MaxInt - 1, math.MaxInt}
}

// wrongs: what is neither Room's nor Move's, whatever arc is asked for.
func wrongs() []samples.Misfit {
	all := samples.BadMisfits()
	for _, c := range currents() {
		all = append(all, samples.Misfits(c.g, c.caps)...)
	}
	return all
}

func TestRoomOfWhatMayNotBe(t *testing.T) {
	refused := func(name string, g api.Graph, caps []int, f []int, arc int) {
		t.Helper()
		if got, err := stream.Room(g, caps, f, arc); got != 0 || err != api.ErrStreamForm {
			t.Errorf("%s: Room(%v, %v, %v, %d): %d, %d", name, g, caps, f, arc, got, err)
		}
	}
	for _, c := range currents() {
		for _, no := range noArcs(c.g) {
			refused("no arc", c.g, c.caps, c.f, no)
		}
	}
	for _, w := range wrongs() {
		for _, arc := range []int{-1, 0, 1, 2*len(w.Graph.Links) - 1, 2 * len(w.Graph.Links)} {
			refused(w.Name, w.Graph, w.Caps, w.List, arc)
		}
	}
}

// P9.2: Move.

func TestMove(t *testing.T) {
	// Of the arcs 0, 2, 4 there is room for 3, 1, 0, of 1, 3, 5 for 2, 3, 0; links 0 and 2 lie side by side.
	g := samples.Graph(3, [3]int{0, 1, 5}, [3]int{1, 2, 6}, [3]int{0, 1, 1})
	caps, f := []int{5, 4, 0}, []int{2, 3, 0}
	for _, x := range []struct {
		name string
		by   int
		arcs []int
		want []int
		err  api.Errno
	}{
		{"no arcs", 1, nil, []int{2, 3, 0}, api.OK},
		{"an empty list", 1, []int{}, []int{2, 3, 0}, api.OK},
		{"no arcs, by 0", 0, nil, []int{2, 3, 0}, api.OK},
		{"no arcs, by MaxRate", most, nil, []int{2, 3, 0}, api.OK},
		{"there", 1, []int{0}, []int{3, 3, 0}, api.OK},
		{"there, another", 1, []int{2}, []int{2, 4, 0}, api.OK},
		{"back", 1, []int{1}, []int{1, 3, 0}, api.OK},
		{"back, another", 1, []int{3}, []int{2, 2, 0}, api.OK},
		{"there, by just the room", 3, []int{0}, []int{5, 3, 0}, api.OK},
		{"there, one above", 4, []int{0}, nil, api.ErrStreamRoom},
		{"there, above the cap, below the link's Cap", 2, []int{2}, nil, api.ErrStreamRoom},
		{"there, by MaxRate", most, []int{0}, nil, api.ErrStreamRoom},
		{"back, by just the room", 3, []int{3}, []int{2, 0, 0}, api.OK},
		{"back, one above", 4, []int{3}, nil, api.ErrStreamRoom},
		{"back, by MaxRate", most, []int{3}, nil, api.ErrStreamRoom},
		{"no room there", 1, []int{4}, nil, api.ErrStreamRoom},
		{"no room back", 1, []int{5}, nil, api.ErrStreamRoom},
		{"by 0, where there is no room", 0, []int{4, 5}, []int{2, 3, 0}, api.OK},
		{"by 0, over all", 0, []int{0, 1, 2, 3, 4, 5}, []int{2, 3, 0}, api.OK},
		{"a way", 1, []int{0, 2}, []int{3, 4, 0}, api.OK},
		{"a way back", 2, []int{3, 1}, []int{0, 1, 0}, api.OK},
		{"the second has no room", 2, []int{0, 2}, nil, api.ErrStreamRoom},
		{"the last has no room", 1, []int{0, 1, 0, 1, 4}, nil, api.ErrStreamRoom},
		{"one arc twice", 1, []int{0, 0}, []int{4, 3, 0}, api.OK},
		{"one arc twice, its room used up", 2, []int{0, 0}, nil, api.ErrStreamRoom},
		{"one arc three times, by just the room", 1, []int{0, 0, 0}, []int{5, 3, 0}, api.OK},
		{"one arc four times", 1, []int{0, 0, 0, 0}, nil, api.ErrStreamRoom},
		{"one arc back twice, its room used up", 2, []int{3, 3}, nil, api.ErrStreamRoom},
		{"an arc and its pair", 3, []int{0, 1}, []int{2, 3, 0}, api.OK},
		{"its pair first", 2, []int{1, 0}, []int{2, 3, 0}, api.OK},
		{"its pair has no room ahead of it", 3, []int{1, 0}, nil, api.ErrStreamRoom},
		{"room that the pair has made", 2, []int{1, 0, 0}, []int{4, 3, 0}, api.OK},
		{"room back that the pair has made", 1, []int{2, 3, 3, 3, 3}, []int{2, 0, 0}, api.OK},
		{"made and used up", 1, []int{2, 3, 3, 3, 3, 3}, nil, api.ErrStreamRoom},
		{"other links in between", 2, []int{1, 3, 0, 0}, []int{4, 1, 0}, api.OK},
	} {
		if got, err := stream.Move(g, caps, f, x.by, x.arcs...); !slices.Equal(got, x.want) || err != x.err {
			t.Errorf("%s: Move(%d, %v): %v, %d, want %v, %d", x.name, x.by, x.arcs, got, err, x.want, x.err)
		}
	}
	if got, err := stream.Move(g, caps, f, 1, 0, 2); !slices.Equal(got, []int{3, 4, 0}) || err != api.OK {
		t.Errorf("Move over arcs that are told one by one: %v, %d", got, err)
	}
}

func TestMoveOfOtherGraphs(t *testing.T) {
	if got, err := stream.Move(samples.Graph(2), nil, nil, 7); len(got) != 0 || err != api.OK {
		t.Errorf("Move without links: %v, %d", got, err)
	}
	great := samples.Graph(2, [3]int{0, 1, most})
	for _, x := range []struct {
		f    int
		by   int
		arcs []int
		want []int
		err  api.Errno
	}{
		{0, most, []int{0}, []int{most}, api.OK},
		{most, most, []int{1}, []int{0}, api.OK},
		{0, most, []int{0, 1, 0}, []int{most}, api.OK},
		{0, most, []int{0, 0}, nil, api.ErrStreamRoom},
		{0, most, []int{1}, nil, api.ErrStreamRoom},
		{1, most, []int{0}, nil, api.ErrStreamRoom},
		{1, most - 1, []int{0}, []int{most}, api.OK},
	} {
		if got, err := stream.Move(great, []int{most}, []int{x.f}, x.by, x.arcs...); !slices.Equal(got, x.want) || err != x.err {
			t.Errorf("Move(%d, %d, %v): %v, %d, want %v, %d", x.f, x.by, x.arcs, got, err, x.want, x.err)
		}
	}
}

// A flow stays one where what is moved goes over a way, and its Value is so much more.
func TestMoveOverAWay(t *testing.T) {
	g, caps := samples.Town(), samples.Caps(samples.Town())
	f := []int{4, 3, 0, 0, 1, 1, 0, 0}
	// From 0 to 1 over link 3, and from there to 3 over link 1.
	more, err := stream.Move(g, caps, f, 2, 6, 2)
	if value, err2 := stream.Value(g, more, 0); !slices.Equal(more, []int{4, 5, 0, 2, 1, 1, 0, 0}) || value != 6 || err != api.OK || err2 != api.OK {
		t.Errorf("%v of Value %d: %d, %d", more, value, err, err2)
	}
	if !stream.May(g, caps, more, 0, 3) {
		t.Errorf("%v is no flow", more)
	}
}

func TestMoveOverManyArcs(t *testing.T) {
	g := samples.Graph(2, [3]int{0, 1, 1000}, [3]int{0, 1, 1})
	caps, f := []int{1000, 0}, []int{0, 0}
	for n := range 70 {
		arcs := make([]int, n)
		want, wantErr := []int{3 * n, 0}, api.OK
		if n > api.MaxWalk {
			want, wantErr = nil, api.ErrStreamForm
		}
		if got, err := stream.Move(g, caps, f, 3, arcs...); !slices.Equal(got, want) || err != wantErr {
			t.Errorf("Move over %d arcs: %v, %d, want %v, %d", n, got, err, want, wantErr)
		}
	}
	for _, n := range []int{api.MaxWalk + 1, 2 * api.MaxWalk, 100000} {
		for _, arc := range []int{-1, 0, 1, 2, 3, 4} {
			if got, err := stream.Move(g, caps, f, 1, slices.Repeat([]int{arc}, n)...); len(got) != 0 || err != api.ErrStreamForm {
				t.Errorf("Move over %d times %d: %v, %d", n, arc, got, err)
			}
		}
	}
}

// What has no form comes ahead of want of room, wherever both stand.
func TestMoveOfWhatMayNotBe(t *testing.T) {
	refused := func(name string, g api.Graph, caps []int, f []int, by int, arcs ...int) {
		t.Helper()
		if got, err := stream.Move(g, caps, f, by, arcs...); len(got) != 0 || err != api.ErrStreamForm {
			t.Errorf("%s: Move(%v, %v, %v, %d, %v): %v, %d", name, g, caps, f, by, arcs, got, err)
		}
	}
	noRates := []int{math.MinInt, -most, -1, most + 1, math.MaxInt}
	for _, c := range currents() {
		for _, by := range noRates {
			refused("by is no rate", c.g, c.caps, c.f, by)
			refused("by is no rate, nor is there an arc", c.g, c.caps, c.f, by, -1)
			if len(c.g.Links) > 0 {
				refused("by is no rate", c.g, c.caps, c.f, by, 0)
				refused("by is no rate", c.g, c.caps, c.f, by, 1, 0)
			}
		}
		for _, no := range noArcs(c.g) {
			for _, by := range []int{0, 1, most} {
				refused("no arc", c.g, c.caps, c.f, by, no)
				if len(c.g.Links) > 0 {
					refused("no arc behind others", c.g, c.caps, c.f, by, 0, 1, no)
					refused("no arc ahead of others", c.g, c.caps, c.f, by, no, 0, 1)
				}
			}
		}
	}
	for _, w := range wrongs() {
		for _, by := range []int{-1, 0, 1, most} {
			refused(w.Name, w.Graph, w.Caps, w.List, by)
			refused(w.Name, w.Graph, w.Caps, w.List, by, 0)
			refused(w.Name, w.Graph, w.Caps, w.List, by, 1, 0, -1)
		}
	}
}

// P9.1 and P9.2: against the words of the chapter.

// liesWithin: are they as many rates, none above its cap?
func liesWithin(f []int, caps []int) bool {
	if len(f) != len(caps) {
		return false
	}
	for i, x := range f {
		if x < 0 || x > most || x > caps[i] {
			return false
		}
	}
	return true
}

// hasForm: may g be, are caps of it, does f lie within them?
func hasForm(g api.Graph, caps []int, f []int) bool {
	return graph.May(g) && liesWithin(caps, samples.Caps(g)) && liesWithin(f, caps)
}

func isVertex(g api.Graph, v int) bool {
	return v >= 0 && v < g.Verts
}

// sum adds up the f of links without bounds.
func sum(f []int, links []int) *big.Int {
	all := new(big.Int)
	for _, l := range links {
		all.Add(all, big.NewInt(int64(f[l])))
	}
	return all
}

// gain of a vertex, by the links out and in that layer 4 tells.
func gain(g api.Graph, f []int, v int) *big.Int {
	out, _ := graph.Out(g, v)
	in, _ := graph.In(g, v)
	return new(big.Int).Sub(sum(f, out), sum(f, in))
}

// may says what May must.
func may(g api.Graph, caps []int, f []int, src int, dst int) bool {
	if !hasForm(g, caps, f) || !isVertex(g, src) || !isVertex(g, dst) || src == dst {
		return false
	}
	for v := range g.Verts {
		if v != src && v != dst && gain(g, f, v).Sign() != 0 {
			return false
		}
	}
	return gain(g, f, src).Sign() >= 0
}

// roomOf says what Room must, of an arc that there is.
func roomOf(caps []int, f []int, arc int) int {
	if arc&1 == 1 {
		return f[arc>>1]
	}
	return caps[arc>>1] - f[arc>>1]
}

// move says what Move must.
func move(g api.Graph, caps []int, f []int, by int, arcs []int) ([]int, api.Errno) {
	if !hasForm(g, caps, f) || by < 0 || by > most || len(arcs) > 64 {
		return nil, api.ErrStreamForm
	}
	for _, arc := range arcs {
		if arc < 0 || arc >= 2*len(g.Links) {
			return nil, api.ErrStreamForm
		}
	}
	all := slices.Clone(f)
	for _, arc := range arcs {
		if by > roomOf(caps, all, arc) {
			return nil, api.ErrStreamRoom
		}
		all[arc>>1] += []int{by, -by}[arc&1]
	}
	return all, api.OK
}

// check holds May, Value and Room against the words of the chapter, and tells whether it is a flow.
func check(t *testing.T, g api.Graph, caps []int, f []int, src int, dst int) bool {
	t.Helper()
	isFlow := may(g, caps, f, src, dst)
	if got := stream.May(g, caps, f, src, dst); got != isFlow {
		t.Errorf("May(%v, %v, %v, %d, %d): %t", g, caps, f, src, dst, got)
	}
	value, valueErr := new(big.Int), api.ErrStreamForm
	if graph.May(g) && liesWithin(f, samples.Caps(g)) && isVertex(g, src) {
		value, valueErr = gain(g, f, src), api.OK
	}
	if got, err := stream.Value(g, f, src); big.NewInt(int64(got)).Cmp(value) != 0 || err != valueErr {
		t.Errorf("Value(%v, %v, %d): %d, %d, want %v, %d", g, f, src, got, err, value, valueErr)
	}
	for arc := -1; arc <= 2*len(g.Links); arc++ {
		room, roomErr := 0, api.ErrStreamForm
		if hasForm(g, caps, f) && arc >= 0 && arc < 2*len(g.Links) {
			room, roomErr = roomOf(caps, f, arc), api.OK
		}
		if got, err := stream.Room(g, caps, f, arc); got != room || err != roomErr {
			t.Errorf("Room(%v, %v, %v, %d): %d, %d, want %d, %d", g, caps, f, arc, got, err, room, roomErr)
		}
	}
	return isFlow
}

// checkMove holds Move against the words of the chapter, and gives what it answers.
func checkMove(t *testing.T, g api.Graph, caps []int, f []int, by int, arcs []int) ([]int, api.Errno) {
	t.Helper()
	want, wantErr := move(g, caps, f, by, arcs)
	got, err := stream.Move(g, caps, f, by, arcs...)
	if !slices.Equal(got, want) || err != wantErr {
		t.Errorf("Move(%v, %v, %v, %d, %v): %v, %d, want %v, %d", g, caps, f, by, arcs, got, err, want, wantErr)
	}
	return got, err
}

func TestAllSmallLists(t *testing.T) {
	triangle := samples.Graph(3, [3]int{0, 1, 2}, [3]int{1, 2, 1}, [3]int{2, 0, 2})
	broken := samples.Graph(3, [3]int{0, 1, 2}, [3]int{1, 1, 1}, [3]int{2, 0, 2})
	for _, caps := range [][]int{{2, 1, 2}, {1, 1, 0}, {0, 0, 0}, {2, 2, 2}, {2, 1}, {2, 1, 2, 0}} {
		for _, f := range samples.Lists([]int{-1, 0, 1, 2, 3}, 4) {
			for src := -1; src <= 3; src++ {
				for dst := -1; dst <= 3; dst++ {
					check(t, triangle, caps, f, src, dst)
				}
			}
			check(t, broken, caps, f, 0, 2)
		}
	}
}

func TestAllSmallMoves(t *testing.T) {
	pair := samples.Graph(2, [3]int{0, 1, 2}, [3]int{1, 0, 3})
	moves := samples.Lists([]int{-1, 0, 1, 2, 3, 4}, 4)
	for _, f := range samples.Lists([]int{-1, 0, 1, 2, 3}, 2) {
		for by := -1; by <= 3; by++ {
			for _, arcs := range moves {
				checkMove(t, pair, []int{2, 2}, f, by, arcs)
			}
		}
	}
}

// someWay gives arcs by chance, each beginning where the one ahead of it ends, from 0 until it comes to 1, and whether it does.
func someWay(r *rand.Rand, g api.Graph) ([]int, bool) {
	var way []int
	at := 0
	for len(way) < 12 && at != 1 && len(g.Links) > 0 {
		arc := r.Intn(2 * len(g.Links))
		from, to := g.Links[arc/2].From, g.Links[arc/2].To
		if arc%2 == 1 {
			from, to = to, from
		}
		if from == at {
			way, at = append(way, arc), to
		} else if r.Intn(50) == 0 {
			break
		}
	}
	return way, at == 1
}

func TestWhateverLists(t *testing.T) {
	r := rand.New(rand.NewSource(9))
	for range 20000 {
		g := samples.Drawn(r.Intn, []int{1, 6, 1000, most / api.MaxLinks}[r.Intn(4)])
		caps := samples.DrawnBelow(r.Intn, samples.Caps(g))
		f := samples.DrawnBelow(r.Intn, caps)
		check(t, g, caps, f, r.Intn(g.Verts+2)-1, r.Intn(g.Verts+2)-1)
		var arcs []int
		for range r.Intn(8) {
			arcs = append(arcs, r.Intn(2*len(g.Links)+1))
		}
		checkMove(t, g, caps, f, r.Intn(4), arcs)
	}
}

// Whatever is moved over ways from 0 to 1 is a flow, of a Value that is all of it together.
func TestWhateverFlows(t *testing.T) {
	r := rand.New(rand.NewSource(99))
	moved, short := 0, 0
	for range 3000 {
		g := samples.Drawn(r.Intn, []int{6, 1000, most / api.MaxLinks}[r.Intn(3)])
		caps := samples.Caps(g)
		f, value := make([]int, len(caps)), 0
		for range 10 {
			way, whole := someWay(r, g)
			if !whole {
				continue
			}
			by := r.Intn(4)
			more, err := checkMove(t, g, caps, f, by, way)
			if err != api.OK {
				short++
				continue
			}
			f, value = more, value+by
			moved++
			if got, err := stream.Value(g, f, 0); got != value || err != api.OK {
				t.Fatalf("Value(%v, %v): %d, %d, want %d", g, f, got, err, value)
			}
			if !check(t, g, caps, f, 0, 1) {
				t.Fatalf("%v is no flow in %v", f, g)
			}
		}
	}
	if moved < 1000 || short < 1000 {
		t.Errorf("only %d times moved, %d times short of room", moved, short)
	}
}

// R4: what is handed in is not changed, nor its spare room, nor kept; answers are new memory.

func TestWhatIsHandedInIsNotChanged(t *testing.T) {
	untouched := func(g api.Graph, caps []int, f []int, by int, arcs ...int) {
		t.Helper()
		links, wholeLinks := samples.Roomy(g.Links, api.Link{From: -7, To: -8, Cap: -9})
		caps, wholeCaps := samples.Roomy(caps, -7)
		f, wholeList := samples.Roomy(f, -7)
		arcs, wholeArcs := samples.Roomy(arcs, -7)
		wasLinks, wasCaps := slices.Clone(wholeLinks), slices.Clone(wholeCaps)
		wasList, wasArcs := slices.Clone(wholeList), slices.Clone(wholeArcs)
		handed := api.Graph{Verts: g.Verts, Links: links}
		stream.May(handed, caps, f, 0, 1)
		stream.Value(handed, f, 0)
		stream.Room(handed, caps, f, 1)
		stream.Move(handed, caps, f, by, arcs...)
		if !slices.Equal(wholeLinks, wasLinks) || !slices.Equal(wholeCaps, wasCaps) {
			t.Errorf("changed: %v, %v", wholeLinks, wholeCaps)
		}
		if !slices.Equal(wholeList, wasList) || !slices.Equal(wholeArcs, wasArcs) {
			t.Errorf("changed: %v, %v", wholeList, wholeArcs)
		}
	}
	for _, c := range currents() {
		for by := range 4 {
			untouched(c.g, c.caps, c.f, by)
			for i := range c.f {
				untouched(c.g, c.caps, c.f, by, 2*i, 2*i+1)
				untouched(c.g, c.caps, c.f, by, 2*i+1, 2*i, 0)
				untouched(c.g, c.caps, c.f, by, 2*i, -1)
			}
		}
	}
	for _, w := range wrongs() {
		untouched(w.Graph, w.Caps, w.List, 1, 0, 1)
	}
}

func TestAnswersAreNewMemory(t *testing.T) {
	for _, c := range currents() {
		for _, arcs := range [][]int{nil, {0}, {1, 0}} {
			if len(arcs) > 2*len(c.f) {
				continue
			}
			caps, f, in := slices.Clone(c.caps), slices.Clone(c.f), slices.Clone(arcs)
			one, _ := stream.Move(c.g, caps, f, 0, in...)
			two, _ := stream.Move(c.g, caps, f, 0, in...)
			samples.Spoil(one)
			three, err := stream.Move(c.g, caps, f, 0, in...)
			if !slices.Equal(two, c.f) || !slices.Equal(three, c.f) || err != api.OK {
				t.Errorf("%s: %v, then %v, %d", c.name, two, three, err)
			}
			if !slices.Equal(f, c.f) || !slices.Equal(caps, c.caps) || !slices.Equal(in, arcs) {
				t.Errorf("%s: the answer is %v, %v, %v", c.name, f, caps, in)
			}
		}
	}
}

func TestWhatIsHandedInIsNotKept(t *testing.T) {
	for _, c := range currents() {
		g := api.Graph{Verts: c.g.Verts, Links: slices.Clone(c.g.Links)}
		caps, f := slices.Clone(c.caps), slices.Clone(c.f)
		moved, err := stream.Move(g, caps, f, 3)
		for i := range g.Links {
			g.Links[i] = api.Link{From: 1, To: 0, Cap: 2}
			caps[i], f[i] = 2, 1
		}
		if !slices.Equal(moved, c.f) || err != api.OK {
			t.Errorf("%s: the answer turned: %v, %d", c.name, moved, err)
		}
		check(t, g, caps, f, 1, 0)
		check(t, c.g, c.caps, c.f, 0, 1)
	}
}

// R5: from several goroutines at one time.

func TestFromSeveralGoroutines(t *testing.T) {
	g, caps, f := samples.Town(), samples.Caps(samples.Town()), []int{4, 3, 0, 0, 1, 1, 0, 0}
	arcs := []int{6, 2}
	var all sync.WaitGroup
	for range 8 {
		all.Go(func() {
			for range 200 {
				value, err := stream.Value(g, f, 0)
				room, err2 := stream.Room(g, caps, f, 2)
				moved, err3 := stream.Move(g, caps, f, 2, arcs...)
				if value != 4 || room != 3 || err != api.OK || err2 != api.OK || !stream.May(g, caps, f, 0, 3) {
					t.Errorf("Value %d, Room %d: %d, %d", value, room, err, err2)
				}
				if !slices.Equal(moved, []int{4, 5, 0, 2, 1, 1, 0, 0}) || err3 != api.OK {
					t.Errorf("Move: %v, %d", moved, err3)
				}
			}
		})
	}
	all.Wait()
}
