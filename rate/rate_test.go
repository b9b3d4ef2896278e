package rate_test

import (
	"math"
	"math/big"
	"slices"
	"sync"
	"testing"

	"tollbar/api"
	"tollbar/rate"
)

// edges: every number at which an answer may turn.
var edges = []int{math.MinInt, math.MinInt + 1, -api.MaxRate, -1, 0, 1, 2, api.MaxRate / 2, api.MaxRate - 1, api.MaxRate, api.MaxRate + 1, math.MaxInt - 1, math.MaxInt}

// rows: all lists of up to three of the edges.
func rows() [][]int {
	all := [][]int{nil}
	last := all
	for range 3 {
		var next [][]int
		for _, row := range last {
			for _, x := range edges {
				next = append(next, append(slices.Clone(row), x))
			}
		}
		all = append(all, next...)
		last = next
	}
	return all
}

// bigSum says what Sum must, by numbers without bounds.
func bigSum(xs []int) (int, bool) {
	sum := new(big.Int)
	for _, x := range xs {
		if x < 0 {
			return 0, false
		}
		sum.Add(sum, big.NewInt(int64(x)))
	}
	if sum.Cmp(big.NewInt(api.MaxRate)) > 0 {
		return 0, false
	}
	return int(sum.Int64()), true
}

// P1.1: Sum.

func TestSum(t *testing.T) {
	for _, c := range []struct {
		xs   []int
		want int
		ok   bool
	}{
		{nil, 0, true},
		{[]int{}, 0, true},
		{[]int{0}, 0, true},
		{[]int{0, 0, 0}, 0, true},
		{[]int{7}, 7, true},
		{[]int{1, 2, 3, 4}, 10, true},
		{[]int{api.MaxRate}, api.MaxRate, true},
		{[]int{0, api.MaxRate, 0}, api.MaxRate, true},
		{[]int{1, api.MaxRate - 1}, api.MaxRate, true},
		{[]int{api.MaxRate / 2, api.MaxRate / 2}, api.MaxRate, true},
		{[]int{api.MaxRate / 2, api.MaxRate / 2, 1}, 0, false},
		{[]int{api.MaxRate + 1}, 0, false},
		{[]int{1, api.MaxRate}, 0, false},
		{[]int{api.MaxRate, 1}, 0, false},
		{[]int{math.MaxInt}, 0, false},
		{[]int{math.MaxInt, math.MaxInt, 2}, 0, false},
		{[]int{math.MinInt}, 0, false},
		{[]int{math.MinInt, math.MinInt}, 0, false},
		{[]int{-1}, 0, false},
		{[]int{-1, 1}, 0, false},
		{[]int{3, 4, -7}, 0, false},
		{[]int{api.MaxRate, 1, -1}, 0, false},
		{[]int{api.MaxRate + 1, -1}, 0, false},
	} {
		if got, ok := rate.Sum(c.xs...); got != c.want || ok != c.ok {
			t.Errorf("Sum(%v): %d, %t; want %d, %t", c.xs, got, ok, c.want, c.ok)
		}
	}
}

func TestSumAtAllEdges(t *testing.T) {
	for _, xs := range rows() {
		want, wantOk := bigSum(xs)
		if got, ok := rate.Sum(xs...); got != want || ok != wantOk {
			t.Errorf("Sum(%v): %d, %t; want %d, %t", xs, got, ok, want, wantOk)
		}
	}
}

func TestSumOfMany(t *testing.T) {
	// Four, and eight, of 1<<62 wrap round to 0 in an int.
	for _, n := range []int{2, 3, 4, 8, 16} {
		if got, ok := rate.Sum(slices.Repeat([]int{api.MaxRate}, n)...); got != 0 || ok {
			t.Errorf("Sum of %d times MaxRate: %d, %t; want 0, false", n, got, ok)
		}
	}
	if got, ok := rate.Sum(slices.Repeat([]int{3}, 100000)...); got != 300000 || !ok {
		t.Errorf("Sum of 100000 times 3: %d, %t", got, ok)
	}
	const part = api.MaxRate / (1 << 16)
	full := slices.Repeat([]int{part}, 1<<16)
	if got, ok := rate.Sum(full...); got != api.MaxRate || !ok {
		t.Errorf("Sum of parts of MaxRate: %d, %t; want MaxRate, true", got, ok)
	}
	if got, ok := rate.Sum(append(full, 1)...); got != 0 || ok {
		t.Errorf("Sum of parts of MaxRate and 1: %d, %t; want 0, false", got, ok)
	}
}

// P1.1: Least.

func TestLeast(t *testing.T) {
	for _, c := range []struct {
		x    int
		more []int
		want int
	}{
		{5, nil, 5},
		{0, nil, 0},
		{-5, []int{}, -5},
		{math.MinInt, nil, math.MinInt},
		{math.MaxInt, nil, math.MaxInt},
		{1, []int{2, 3}, 1},
		{2, []int{1, 3}, 1},
		{3, []int{2, 1}, 1},
		{4, []int{4, 4}, 4},
		{api.MaxRate, []int{api.MaxRate + 1}, api.MaxRate},
		{0, []int{-1, 1}, -1},
		{math.MinInt, []int{math.MaxInt}, math.MinInt},
		{math.MaxInt, []int{math.MinInt}, math.MinInt},
		{math.MaxInt, []int{math.MaxInt}, math.MaxInt},
		{math.MinInt + 1, []int{math.MinInt, math.MinInt + 2}, math.MinInt},
	} {
		if got := rate.Least(c.x, c.more...); got != c.want {
			t.Errorf("Least(%d, %v): %d, want %d", c.x, c.more, got, c.want)
		}
	}
}

func TestLeastAtAllEdges(t *testing.T) {
	for _, xs := range rows()[1:] {
		if got, want := rate.Least(xs[0], xs[1:]...), slices.Min(xs); got != want {
			t.Errorf("Least(%v): %d, want %d", xs, got, want)
		}
	}
}

// P1.2: Meter.

type step struct {
	xs    []int
	ok    bool
	total int
}

func TestMeter(t *testing.T) {
	var m rate.Meter
	if m.Total() != 0 {
		t.Fatalf("a Meter begins at %d", m.Total())
	}
	for i, c := range []step{
		{nil, true, 0},
		{[]int{-1}, false, 0},
		{[]int{api.MaxRate + 1}, false, 0},
		{[]int{math.MinInt}, false, 0},
		{[]int{math.MaxInt}, false, 0},
		{[]int{3}, true, 3},
		{[]int{0}, true, 3},
		{[]int{1, 2, 3}, true, 9},
		{[]int{1, 2, -3}, false, 9},
		{[]int{-9}, false, 9},
		{[]int{api.MaxRate}, false, 9},
		{[]int{1, api.MaxRate - 9}, false, 9},
		{[]int{api.MaxRate - 10, math.MaxInt}, false, 9},
		{[]int{api.MaxRate - 10}, true, api.MaxRate - 1},
		{[]int{2}, false, api.MaxRate - 1},
		{[]int{1, 0}, true, api.MaxRate},
		{nil, true, api.MaxRate},
		{[]int{0, 0}, true, api.MaxRate},
		{[]int{1}, false, api.MaxRate},
		{[]int{api.MaxRate}, false, api.MaxRate},
		{[]int{api.MaxRate, api.MaxRate, api.MaxRate}, false, api.MaxRate},
		{[]int{-1}, false, api.MaxRate},
		{[]int{-1, 1}, false, api.MaxRate},
	} {
		if ok := m.Add(c.xs...); ok != c.ok || m.Total() != c.total {
			t.Errorf("%d: Add(%v): %t, then %d; want %t, %d", i, c.xs, ok, m.Total(), c.ok, c.total)
		}
	}
}

func TestMeterAtAllEdges(t *testing.T) {
	for _, start := range []int{0, 1, api.MaxRate / 2, api.MaxRate - 1, api.MaxRate} {
		for _, xs := range rows() {
			var m rate.Meter
			if !m.Add(start) {
				t.Fatalf("Add(%d) to a new Meter: false", start)
			}
			want, wantOk := bigSum(append([]int{start}, xs...))
			if !wantOk {
				want = start
			}
			if ok := m.Add(xs...); ok != wantOk || m.Total() != want {
				t.Errorf("at %d Add(%v): %t, then %d; want %t, %d", start, xs, ok, m.Total(), wantOk, want)
			}
		}
	}
}

func TestMetersApart(t *testing.T) {
	var a, b rate.Meter
	a.Add(4)
	c := a
	c.Add(5)
	if a.Total() != 4 || b.Total() != 0 || c.Total() != 9 {
		t.Errorf("%d, %d, %d; want 4, 0, 9", a.Total(), b.Total(), c.Total())
	}
}

func TestTotalTurnsNothing(t *testing.T) {
	g := rate.NewGauge(9)
	g.Add(4)
	for range 3 {
		if g.Total() != 4 || g.Meter.Total() != 4 || g.Room() != 5 {
			t.Fatalf("%d, %d, room %d; want 4, 4, 5", g.Total(), g.Meter.Total(), g.Room())
		}
	}
}

// P1.3: Gauge.

func TestNewGauge(t *testing.T) {
	for _, c := range []struct{ most, want int }{
		{math.MinInt, 0},
		{-api.MaxRate, 0},
		{-1, 0},
		{0, 0},
		{1, 1},
		{10, 10},
		{api.MaxRate - 1, api.MaxRate - 1},
		{api.MaxRate, api.MaxRate},
		{api.MaxRate + 1, api.MaxRate},
		{math.MaxInt, api.MaxRate},
	} {
		g := rate.NewGauge(c.most)
		if g.Total() != 0 || g.Meter.Total() != 0 || g.Room() != c.want {
			t.Errorf("NewGauge(%d): at %d, room %d; want 0, %d", c.most, g.Total(), g.Room(), c.want)
		}
		if c.want < api.MaxRate && g.Add(c.want+1) {
			t.Errorf("NewGauge(%d): one above most was added", c.most)
		}
		if !g.Add(c.want) || g.Total() != c.want || g.Room() != 0 {
			t.Errorf("NewGauge(%d): most was not added: at %d, room %d", c.most, g.Total(), g.Room())
		}
		if g.Add(1) || !g.Add(0) || !g.Add() || g.Total() != c.want {
			t.Errorf("NewGauge(%d): at most only nothing may be added", c.most)
		}
	}
}

func TestGaugeAdd(t *testing.T) {
	g := rate.NewGauge(20)
	for i, c := range []step{
		{nil, true, 0},
		{[]int{0}, true, 0},
		{[]int{21}, false, 0},
		{[]int{20, 1}, false, 0},
		{[]int{-1}, false, 0},
		{[]int{5, 6}, true, 11},
		{[]int{10}, false, 11},
		{[]int{9, -1}, false, 11},
		{[]int{20, -11}, false, 11},
		{[]int{-11}, false, 11},
		{[]int{math.MinInt}, false, 11},
		{[]int{math.MaxInt}, false, 11},
		{[]int{api.MaxRate}, false, 11},
		{[]int{api.MaxRate, api.MaxRate, api.MaxRate, api.MaxRate}, false, 11},
		{[]int{8}, true, 19},
		{[]int{1, 1}, false, 19},
		{[]int{0, 1, 0}, true, 20},
		{nil, true, 20},
		{[]int{0, 0}, true, 20},
		{[]int{1}, false, 20},
	} {
		ok := g.Add(c.xs...)
		if ok != c.ok || g.Total() != c.total || g.Meter.Total() != c.total || g.Room() != 20-c.total {
			t.Errorf("%d: Add(%v): %t, then %d, room %d; want %t, %d, %d", i, c.xs, ok, g.Total(), g.Room(), c.ok, c.total, 20-c.total)
		}
	}
}

func TestGaugeAboveItsMost(t *testing.T) {
	g := rate.NewGauge(10)
	if !g.Add(4) || !g.Meter.Add(6) || g.Total() != 10 || g.Room() != 0 || !g.Add() {
		t.Fatalf("at most: %d, room %d", g.Total(), g.Room())
	}
	if !g.Meter.Add(1) || g.Total() != 11 || g.Meter.Total() != 11 || g.Room() != 0 {
		t.Errorf("above most: %d, room %d; want 11, 0", g.Total(), g.Room())
	}
	for _, xs := range [][]int{nil, {0}, {0, 0}, {1}, {-1}, {-2}, {math.MinInt}, {math.MaxInt}, {api.MaxRate}} {
		if g.Add(xs...) || g.Total() != 11 || g.Room() != 0 {
			t.Errorf("above most Add(%v) did something: %d, room %d", xs, g.Total(), g.Room())
		}
	}
	if !g.Meter.Add() || !g.Meter.Add(0) || g.Meter.Add(-1) || g.Meter.Add(api.MaxRate) || g.Total() != 11 {
		t.Errorf("its Meter's own Add is a Meter's: %d", g.Total())
	}
	if !g.Meter.Add(api.MaxRate-11) || g.Total() != api.MaxRate || g.Room() != 0 || g.Meter.Add(1) {
		t.Errorf("its Meter goes up to MaxRate: %d, room %d", g.Total(), g.Room())
	}
	if g.Add() || g.Add(0) || g.Add(1) || g.Total() != api.MaxRate {
		t.Errorf("at MaxRate, above most: %d", g.Total())
	}
}

func TestGaugeAtAllEdges(t *testing.T) {
	for _, most := range []int{0, 1, 2, api.MaxRate - 1, api.MaxRate} {
		for _, start := range []int{0, 1, 2, 3, api.MaxRate - 1, api.MaxRate} {
			for _, xs := range rows() {
				g := rate.NewGauge(most)
				g.Meter.Add(start)
				want, wantOk := bigSum(append([]int{start}, xs...))
				if !wantOk || want > most {
					want, wantOk = start, false
				}
				room := max(0, most-want)
				if ok := g.Add(xs...); ok != wantOk || g.Total() != want || g.Room() != room {
					t.Errorf("most %d, at %d Add(%v): %t, then %d, room %d; want %t, %d, %d", most, start, xs, ok, g.Total(), g.Room(), wantOk, want, room)
				}
			}
		}
	}
}

func TestGaugesApart(t *testing.T) {
	a, b := rate.NewGauge(5), rate.NewGauge(7)
	if a == b || !a.Add(5) || b.Total() != 0 || b.Room() != 7 || !b.Add(7) || a.Total() != 5 {
		t.Errorf("two Gauges share something: %d, %d", a.Total(), b.Total())
	}
}

// A Gauge's Meter is embedded: it is handed on as one.
func TestGaugeIsAMeter(t *testing.T) {
	g := rate.NewGauge(3)
	var m *rate.Meter = &g.Meter
	if !m.Add(8) || g.Total() != 8 {
		t.Errorf("by its Meter: %d, want 8", g.Total())
	}
	for _, c := range []interface {
		Add(...int) bool
		Total() int
	}{new(rate.Meter), rate.NewGauge(9)} {
		if !c.Add(1, 2) || c.Total() != 3 {
			t.Errorf("%T: %d, want 3", c, c.Total())
		}
	}
}

// R4: what is handed in is neither changed, with its spare room, nor kept.
func TestHandedInIsNotChanged(t *testing.T) {
	var m rate.Meter
	g, above := rate.NewGauge(100), rate.NewGauge(1)
	above.Meter.Add(2)
	calls := map[string]func([]int){
		"Sum":              func(xs []int) { rate.Sum(xs...) },
		"Least":            func(xs []int) { rate.Least(6, xs...) },
		"Meter.Add":        func(xs []int) { m.Add(xs...) },
		"Gauge.Add":        func(xs []int) { g.Add(xs...) },
		"Gauge.Add, above": func(xs []int) { above.Add(xs...) },
	}
	for name, call := range calls {
		for _, row := range [][]int{{}, {5, 3, 9}, {9, -1, 4}, {api.MaxRate, 1, 2}} {
			whole := append(slices.Clone(row), 71, 72, 73)
			before := slices.Clone(whole)
			call(whole[:len(row)])
			if !slices.Equal(whole, before) {
				t.Errorf("%s(%v): its memory was %v, is %v", name, row, before, whole)
			}
		}
	}
}

func TestHandedInIsNotKept(t *testing.T) {
	var m rate.Meter
	g := rate.NewGauge(100)
	xs := []int{5, 6}
	m.Add(xs...)
	g.Add(xs...)
	xs[0], xs[1] = 50, 60
	if m.Total() != 11 || g.Total() != 11 || g.Room() != 89 {
		t.Errorf("%d, %d, room %d; want 11, 11, 89", m.Total(), g.Total(), g.Room())
	}
}

// R5: functions may be called from several goroutines at one time, each object from one.
func TestSeveralAtOneTime(t *testing.T) {
	xs := []int{4, 2, 6}
	var all sync.WaitGroup
	for range 8 {
		all.Go(func() {
			for range 1000 {
				sum, ok := rate.Sum(xs...)
				g := rate.NewGauge(sum)
				if !ok || sum != 12 || rate.Least(5, xs...) != 2 || !g.Add(xs...) || g.Room() != 0 {
					t.Errorf("%d, %t, room %d", sum, ok, g.Room())
					return
				}
			}
		})
	}
	all.Wait()
}
