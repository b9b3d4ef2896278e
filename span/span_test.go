package span_test

import (
	"math"
	"slices"
	"sync"
	"testing"

	"tollbar/api"
	"tollbar/span"
)

// wrong: spans that may not be.
var wrong = []api.Span{
	{},
	{From: 1, To: 1},
	{From: 7, To: 7},
	{From: 4, To: 3},
	{From: 1, To: 0},
	{From: -1, To: 0},
	{From: -1, To: 1},
	{From: -5, To: -2},
	{From: 0, To: -1},
	{From: -1, To: api.MaxTime},
	{From: 0, To: api.MaxTime + 1},
	{From: api.MaxTime - 1, To: api.MaxTime + 1},
	{From: api.MaxTime, To: api.MaxTime},
	{From: api.MaxTime, To: api.MaxTime + 1},
	{From: api.MaxTime, To: 0},
	{From: 0, To: math.MaxInt},
	{From: 0, To: math.MinInt},
	{From: math.MinInt, To: 0},
	{From: math.MinInt, To: 9},
	{From: math.MaxInt, To: 0},
	{From: math.MinInt, To: math.MaxInt},
	{From: math.MaxInt, To: math.MinInt},
	{From: math.MinInt, To: math.MinInt},
	{From: math.MaxInt, To: math.MaxInt},
	{From: math.MaxInt - 1, To: math.MaxInt},
	{From: math.MinInt, To: math.MinInt + 1},
}

// right: spans that may be, at the edges and between them.
var right = []api.Span{
	{From: 0, To: 1},
	{From: 0, To: 2},
	{From: 1, To: 2},
	{From: 3, To: 9},
	{From: 9, To: 12},
	{From: 0, To: api.MaxTime},
	{From: 1, To: api.MaxTime},
	{From: 0, To: api.MaxTime - 1},
	{From: api.MaxTime - 2, To: api.MaxTime - 1},
	{From: api.MaxTime - 1, To: api.MaxTime},
}

// edges: numbers at which an answer may turn.
var edges = []int{math.MinInt, math.MinInt + 1, -api.MaxTime, -2, -1, 0, 1, 2, 3, api.MaxTime - 2, api.MaxTime - 1, api.MaxTime, api.MaxTime + 1, math.MaxInt - 1, math.MaxInt}

// small: all spans between -1 and 7, those that may not be among them.
func small() []api.Span {
	var all []api.Span
	for from := -1; from <= 7; from++ {
		for to := -1; to <= 7; to++ {
			all = append(all, api.Span{From: from, To: to})
		}
	}
	return all
}

// late: all spans between MaxTime less 3 and MaxTime and 2, those that may not be among them.
func late() []api.Span {
	var all []api.Span
	for from := api.MaxTime - 3; from <= api.MaxTime+2; from++ {
		for to := api.MaxTime - 3; to <= api.MaxTime+2; to++ {
			all = append(all, api.Span{From: from, To: to})
		}
	}
	return all
}

// instants says which instants are in all of the spans, by the words of the chapter, one by one.
func instants(ss ...api.Span) []int {
	var in []int
	for at := range api.MaxTime {
		if !slices.ContainsFunc(ss, func(s api.Span) bool {
			return s.From < 0 || s.From >= s.To || s.To > api.MaxTime || at < s.From || at >= s.To
		}) {
			in = append(in, at)
		}
	}
	return in
}

// P2.1: May.

func TestMay(t *testing.T) {
	for _, s := range right {
		if !span.May(s) {
			t.Errorf("May(%v): false", s)
		}
	}
	for _, s := range wrong {
		if span.May(s) {
			t.Errorf("May(%v): true", s)
		}
	}
}

func TestMayAtAllEdges(t *testing.T) {
	for _, from := range edges {
		for _, to := range edges {
			s := api.Span{From: from, To: to}
			if got, want := span.May(s), len(instants(s)) > 0; got != want {
				t.Errorf("May(%v): %t, want %t", s, got, want)
			}
		}
	}
}

// P2.1: Has.

func TestHas(t *testing.T) {
	for _, s := range right {
		for _, at := range []int{s.From, (s.From + s.To) / 2, s.To - 1} {
			if !span.Has(s, at) {
				t.Errorf("Has(%v, %d): false", s, at)
			}
		}
		for _, at := range []int{s.From - 1, s.To, s.To + 1, -1, api.MaxTime, math.MinInt, math.MaxInt} {
			if span.Has(s, at) {
				t.Errorf("Has(%v, %d): true", s, at)
			}
		}
	}
}

func TestHasOfASpanThatMayNotBe(t *testing.T) {
	for _, s := range wrong {
		for _, at := range append([]int{s.From, s.From/2 + s.To/2, s.To}, edges...) {
			if span.Has(s, at) {
				t.Errorf("Has(%v, %d): true", s, at)
			}
		}
	}
}

func TestHasAtEachInstant(t *testing.T) {
	for _, s := range slices.Concat(small(), late(), right) {
		in := instants(s)
		for at := -3; at < api.MaxTime+3; at++ {
			_, want := slices.BinarySearch(in, at)
			if got := span.Has(s, at); got != want {
				t.Fatalf("Has(%v, %d): %t, want %t", s, at, got, want)
			}
		}
	}
}

// P2.1: Meets, Both.

func TestBoth(t *testing.T) {
	for _, c := range []struct {
		name string
		a, b api.Span
		want api.Span
		ok   bool
	}{
		{"the same", api.Span{From: 3, To: 9}, api.Span{From: 3, To: 9}, api.Span{From: 3, To: 9}, true},
		{"over its end", api.Span{From: 3, To: 9}, api.Span{From: 5, To: 12}, api.Span{From: 5, To: 9}, true},
		{"within", api.Span{From: 3, To: 9}, api.Span{From: 5, To: 7}, api.Span{From: 5, To: 7}, true},
		{"within, from its From on", api.Span{From: 3, To: 9}, api.Span{From: 3, To: 4}, api.Span{From: 3, To: 4}, true},
		{"within, up to its To", api.Span{From: 3, To: 9}, api.Span{From: 8, To: 9}, api.Span{From: 8, To: 9}, true},
		{"one instant", api.Span{From: 3, To: 9}, api.Span{From: 8, To: 20}, api.Span{From: 8, To: 9}, true},
		{"they touch", api.Span{From: 3, To: 9}, api.Span{From: 9, To: 12}, api.Span{}, false},
		{"apart by one", api.Span{From: 3, To: 9}, api.Span{From: 10, To: 12}, api.Span{}, false},
		{"far apart", api.Span{From: 0, To: 1}, api.Span{From: api.MaxTime - 1, To: api.MaxTime}, api.Span{}, false},
		{"all and its begin", api.Span{From: 0, To: api.MaxTime}, api.Span{From: 0, To: 1}, api.Span{From: 0, To: 1}, true},
		{"all and its end", api.Span{From: 0, To: api.MaxTime}, api.Span{From: api.MaxTime - 1, To: api.MaxTime}, api.Span{From: api.MaxTime - 1, To: api.MaxTime}, true},
		{"all twice", api.Span{From: 0, To: api.MaxTime}, api.Span{From: 0, To: api.MaxTime}, api.Span{From: 0, To: api.MaxTime}, true},
		{"begun below 0", api.Span{From: 3, To: 9}, api.Span{From: -1, To: 12}, api.Span{}, false},
		{"ends above MaxTime", api.Span{From: 3, To: 9}, api.Span{From: 0, To: api.MaxTime + 1}, api.Span{}, false},
	} {
		for _, p := range [][2]api.Span{{c.a, c.b}, {c.b, c.a}} {
			if got, ok := span.Both(p[0], p[1]); got != c.want || ok != c.ok {
				t.Errorf("%s: Both(%v, %v): %v, %t; want %v, %t", c.name, p[0], p[1], got, ok, c.want, c.ok)
			}
			if span.Meets(p[0], p[1]) != c.ok {
				t.Errorf("%s: Meets(%v, %v): %t", c.name, p[0], p[1], !c.ok)
			}
		}
	}
}

func TestBothOfASpanThatMayNotBe(t *testing.T) {
	for _, w := range wrong {
		for _, s := range slices.Concat(right, wrong) {
			for _, p := range [][2]api.Span{{w, s}, {s, w}} {
				if got, ok := span.Both(p[0], p[1]); got != (api.Span{}) || ok {
					t.Errorf("Both(%v, %v): %v, %t", p[0], p[1], got, ok)
				}
				if span.Meets(p[0], p[1]) {
					t.Errorf("Meets(%v, %v): true", p[0], p[1])
				}
			}
		}
	}
}

func TestBothByInstants(t *testing.T) {
	for _, spans := range [][]api.Span{small(), late(), right} {
		for _, a := range spans {
			for _, b := range spans {
				var want api.Span
				in := instants(a, b)
				if len(in) > 0 {
					want = api.Span{From: in[0], To: in[len(in)-1] + 1}
				}
				if got, ok := span.Both(a, b); got != want || ok != (len(in) > 0) {
					t.Fatalf("Both(%v, %v): %v, %t; want %v, %t", a, b, got, ok, want, len(in) > 0)
				}
				if span.Meets(a, b) != (len(in) > 0) {
					t.Fatalf("Meets(%v, %v): %t", a, b, len(in) == 0)
				}
			}
		}
	}
}

// P2.2: Cover.

func TestCover(t *testing.T) {
	for _, c := range []struct {
		ss   []api.Span
		want api.Span
	}{
		{[]api.Span{{From: 3, To: 9}}, api.Span{From: 3, To: 9}},
		{[]api.Span{{From: 0, To: api.MaxTime}}, api.Span{From: 0, To: api.MaxTime}},
		{[]api.Span{{From: 3, To: 9}, {From: 3, To: 9}}, api.Span{From: 3, To: 9}},
		{[]api.Span{{From: 3, To: 9}, {From: 9, To: 12}}, api.Span{From: 3, To: 12}},
		{[]api.Span{{From: 9, To: 12}, {From: 3, To: 9}}, api.Span{From: 3, To: 12}},
		{[]api.Span{{From: 3, To: 4}, {From: 20, To: 21}}, api.Span{From: 3, To: 21}},
		{[]api.Span{{From: 5, To: 6}, {From: 9, To: 12}, {From: 7, To: 8}}, api.Span{From: 5, To: 12}},
		{[]api.Span{{From: 9, To: 12}, {From: 5, To: 60}, {From: 7, To: 8}}, api.Span{From: 5, To: 60}},
		{[]api.Span{{From: 9, To: 12}, {From: 7, To: 8}, {From: 5, To: 60}}, api.Span{From: 5, To: 60}},
		{[]api.Span{{From: 7, To: 60}, {From: 5, To: 8}, {From: 6, To: 61}}, api.Span{From: 5, To: 61}},
		{[]api.Span{{From: 0, To: 1}, {From: api.MaxTime - 1, To: api.MaxTime}}, api.Span{From: 0, To: api.MaxTime}},
		{slices.Repeat([]api.Span{{From: 2, To: 4}, {From: 1, To: 3}}, 5000), api.Span{From: 1, To: 4}},
	} {
		if got, err := span.Cover(c.ss...); got != c.want || err != api.OK {
			t.Errorf("Cover(%v): %v, %d; want %v, OK", c.ss, got, err, c.want)
		}
	}
}

func TestCoverOfNone(t *testing.T) {
	for _, ss := range [][]api.Span{nil, {}} {
		if got, err := span.Cover(ss...); got != (api.Span{}) || err != api.ErrSpanForm {
			t.Errorf("Cover of none: %v, %d; want the zero span, ErrSpanForm", got, err)
		}
	}
}

func TestCoverWithASpanThatMayNotBe(t *testing.T) {
	for _, w := range wrong {
		for _, ss := range [][]api.Span{
			{w},
			{w, w},
			{w, {From: 1, To: 5}},
			{{From: 1, To: 5}, w},
			{w, {From: 1, To: 5}, {From: 2, To: 9}},
			{{From: 1, To: 5}, w, {From: 2, To: 9}},
			{{From: 1, To: 5}, {From: 2, To: 9}, w},
			{{From: 0, To: api.MaxTime}, w},
		} {
			if got, err := span.Cover(ss...); got != (api.Span{}) || err != api.ErrSpanForm {
				t.Errorf("Cover(%v): %v, %d; want the zero span, ErrSpanForm", ss, got, err)
			}
		}
	}
}

func TestCoverIsTheLeast(t *testing.T) {
	for _, spans := range [][]api.Span{small(), late(), right} {
		for _, a := range spans {
			for _, b := range spans {
				want, wantErr := api.Span{}, api.ErrSpanForm
				if in := append(instants(a), instants(b)...); len(instants(a)) > 0 && len(instants(b)) > 0 {
					want, wantErr = api.Span{From: slices.Min(in), To: slices.Max(in) + 1}, api.OK
				}
				if got, err := span.Cover(a, b); got != want || err != wantErr {
					t.Fatalf("Cover(%v, %v): %v, %d; want %v, %d", a, b, got, err, want, wantErr)
				}
			}
		}
	}
}

// P2.2: Cut.

func TestCut(t *testing.T) {
	for _, c := range []struct {
		name string
		s    api.Span
		ps   []int
		want []api.Span
	}{
		{"nil", api.Span{From: 2, To: 9}, nil, []api.Span{{From: 2, To: 9}}},
		{"none", api.Span{From: 2, To: 9}, []int{}, []api.Span{{From: 2, To: 9}}},
		{"at From and To", api.Span{From: 2, To: 9}, []int{2, 9}, []api.Span{{From: 2, To: 9}}},
		{"outside", api.Span{From: 2, To: 9}, []int{1, 10, 0, -1, api.MaxTime, math.MinInt, math.MaxInt}, []api.Span{{From: 2, To: 9}}},
		{"one", api.Span{From: 2, To: 9}, []int{5}, []api.Span{{From: 2, To: 5}, {From: 5, To: 9}}},
		{"one behind From", api.Span{From: 2, To: 9}, []int{3}, []api.Span{{From: 2, To: 3}, {From: 3, To: 9}}},
		{"one ahead of To", api.Span{From: 2, To: 9}, []int{8}, []api.Span{{From: 2, To: 8}, {From: 8, To: 9}}},
		{"one, often", api.Span{From: 2, To: 9}, []int{5, 5, 5, 5}, []api.Span{{From: 2, To: 5}, {From: 5, To: 9}}},
		{"rising", api.Span{From: 2, To: 9}, []int{3, 5, 8}, []api.Span{{From: 2, To: 3}, {From: 3, To: 5}, {From: 5, To: 8}, {From: 8, To: 9}}},
		{"falling", api.Span{From: 2, To: 9}, []int{8, 5, 3}, []api.Span{{From: 2, To: 3}, {From: 3, To: 5}, {From: 5, To: 8}, {From: 8, To: 9}}},
		{"any row, often, some outside", api.Span{From: 2, To: 9}, []int{5, 20, 3, 5, 9, 8, 2, 3, -4}, []api.Span{{From: 2, To: 3}, {From: 3, To: 5}, {From: 5, To: 8}, {From: 8, To: 9}}},
		{"of one instant", api.Span{From: 4, To: 5}, []int{3, 4, 5, 6}, []api.Span{{From: 4, To: 5}}},
		{"from 0 on", api.Span{From: 0, To: 2}, []int{0, 1, 2}, []api.Span{{From: 0, To: 1}, {From: 1, To: 2}}},
		{"up to MaxTime", api.Span{From: api.MaxTime - 2, To: api.MaxTime}, []int{api.MaxTime, api.MaxTime - 1}, []api.Span{{From: api.MaxTime - 2, To: api.MaxTime - 1}, {From: api.MaxTime - 1, To: api.MaxTime}}},
		{"all", api.Span{From: 0, To: api.MaxTime}, []int{api.MaxTime - 1, 1}, []api.Span{{From: 0, To: 1}, {From: 1, To: api.MaxTime - 1}, {From: api.MaxTime - 1, To: api.MaxTime}}},
	} {
		if got, err := span.Cut(c.s, c.ps...); !slices.Equal(got, c.want) || err != api.OK {
			t.Errorf("%s: Cut(%v, %v): %v, %d; want %v, OK", c.name, c.s, c.ps, got, err, c.want)
		}
	}
}

func TestCutOfASpanThatMayNotBe(t *testing.T) {
	for _, w := range wrong {
		for _, ps := range [][]int{nil, {0}, {1, 2, 3}, {w.From, w.To}, edges} {
			if got, err := span.Cut(w, ps...); len(got) != 0 || err != api.ErrSpanForm {
				t.Errorf("Cut(%v, %v): %v, %d; want none, ErrSpanForm", w, ps, got, err)
			}
		}
	}
}

// isCut says whether the spans are s cut at the points, by the words of the chapter: asked of each instant.
func isCut(got []api.Span, s api.Span, ps []int) bool {
	if len(got) == 0 || got[0].From != s.From || got[len(got)-1].To != s.To {
		return false
	}
	for i, g := range got {
		if g.From >= g.To || i > 0 && got[i-1].To != g.From {
			return false
		}
	}
	for at := s.From + 1; at < s.To; at++ {
		ends := slices.ContainsFunc(got, func(g api.Span) bool { return g.To == at })
		if ends != slices.Contains(ps, at) {
			return false
		}
	}
	return true
}

func TestCutAtAllRows(t *testing.T) {
	points := []int{math.MinInt, -1, 0, 1, 2, 3, 4, 5, math.MaxInt}
	for _, s := range []api.Span{{From: 0, To: 1}, {From: 0, To: 4}, {From: 1, To: 4}, {From: 1, To: 5}} {
		for _, a := range points {
			for _, b := range points {
				for _, c := range points {
					for _, d := range points {
						ps := []int{a, b, c, d}
						if got, err := span.Cut(s, ps...); !isCut(got, s, ps) || err != api.OK {
							t.Fatalf("Cut(%v, %v): %v, %d", s, ps, got, err)
						}
					}
				}
			}
		}
	}
}

func TestCutAtMany(t *testing.T) {
	s := api.Span{From: 0, To: api.MaxTime}
	var ps []int
	for i := range 200000 {
		// 2731 and 6000 have no divisor in common, so that every point comes.
		ps = append(ps, (i*2731)%6000-500)
	}
	got, err := span.Cut(s, ps...)
	if len(got) != api.MaxTime || err != api.OK {
		t.Fatalf("%d spans, %d; want %d, OK", len(got), err, api.MaxTime)
	}
	for i, g := range got {
		if g != (api.Span{From: i, To: i + 1}) {
			t.Fatalf("span %d: %v", i, g)
		}
	}
}

// R4: what is handed in is not changed, its spare room neither.

func TestCutTurnsNothing(t *testing.T) {
	for _, s := range []api.Span{{From: 2, To: 9}, {From: 9, To: 2}} {
		for _, row := range [][]int{{}, {8, 5, 3}, {5, 5, 5, 4}, {20, 3, math.MinInt, 3}, {3, 5, 8}} {
			whole := append(slices.Clone(row), 7, 6, 4)
			before := slices.Clone(whole)
			span.Cut(s, whole[:len(row)]...)
			if !slices.Equal(whole, before) {
				t.Errorf("Cut(%v, %v): its memory was %v, is %v", s, row, before, whole)
			}
		}
	}
}

func TestCoverTurnsNothing(t *testing.T) {
	for _, row := range [][]api.Span{{}, {{From: 5, To: 6}}, {{From: 5, To: 6}, {From: 3, To: 4}, {From: 7, To: 9}}, {{From: 5, To: 6}, {}, {From: 7, To: 9}}} {
		whole := append(slices.Clone(row), api.Span{From: 1, To: 2}, api.Span{From: 0, To: 8})
		before := slices.Clone(whole)
		span.Cover(whole[:len(row)]...)
		if !slices.Equal(whole, before) {
			t.Errorf("Cover(%v): its memory was %v, is %v", row, before, whole)
		}
	}
}

// R4: two answers share nothing.
func TestCutAnswersNewMemory(t *testing.T) {
	s, ps := api.Span{From: 2, To: 9}, []int{5, 3}
	a, _ := span.Cut(s, ps...)
	b, _ := span.Cut(s, ps...)
	for i := range a[:cap(a)] {
		a[:cap(a)][i] = api.Span{From: -7, To: -7}
	}
	ps[0], ps[1] = 4, 4
	if want := []api.Span{{From: 2, To: 3}, {From: 3, To: 5}, {From: 5, To: 9}}; !slices.Equal(b, want) {
		t.Errorf("another answer is %v now, want %v", b, want)
	}
}

// R5: functions may be called from several goroutines at one time.
func TestFromSeveralGoroutines(t *testing.T) {
	ps := []int{8, 5, 3, 5}
	ss := []api.Span{{From: 5, To: 6}, {From: 3, To: 4}, {From: 7, To: 9}}
	var all sync.WaitGroup
	for range 8 {
		all.Go(func() {
			for range 200 {
				cuts, _ := span.Cut(api.Span{From: 2, To: 9}, ps...)
				cover, _ := span.Cover(ss...)
				if len(cuts) != 4 || cover != (api.Span{From: 3, To: 9}) || !span.Meets(ss[0], cover) {
					t.Errorf("Cut: %v, Cover: %v", cuts, cover)
				}
			}
		})
	}
	all.Wait()
}
