package profile_test

import (
	"math"
	"slices"
	"testing"

	"tollbar/api"
	"tollbar/profile"
)

const great = api.MaxRate

// end is the instant behind all.
const end = api.MaxTime

// over is a Weight.
func over(from int, to int, load int) api.Weight {
	return api.Weight{Span: api.Span{From: from, To: to}, Load: load}
}

// runs are given as pairs, a From and a Load.
func runs(pairs ...int) []api.Run {
	var rs []api.Run
	for i := 0; i+1 < len(pairs); i += 2 {
		rs = append(rs, api.Run{From: pairs[i], Load: pairs[i+1]})
	}
	return rs
}

// toothed gives the profile of as many Runs as may be: one an instant.
func toothed() []api.Run {
	var rs []api.Run
	for at := range end {
		rs = append(rs, api.Run{From: at, Load: at * 7 % 5})
	}
	return rs
}

// sample is a profile that may be.
type sample struct {
	name string
	rs   []api.Run
}

// all: profiles that may be.
func all() []sample {
	return []sample{
		{"nothing", runs(0, 0)},
		{"one Run", runs(0, 5)},
		{"one Run, the greatest Load", runs(0, great)},
		{"a Load of 0 first", runs(0, 0, 3, 2)},
		{"a Load of 0 last", runs(0, 2, 3, 0)},
		{"a Load of 0 between", runs(0, 2, 3, 0, 5, 2)},
		{"one instant", runs(0, 0, 3, 2, 4, 0)},
		{"the first instant", runs(0, 3, 1, 1)},
		{"the last instant", runs(0, 3, end-1, 4)},
		{"up and up", runs(0, 1, 2, 2, 3, 3, 5, 4, 6, 5)},
		{"down and down", runs(0, 5, 2, 4, 3, 3, 5, 2, 6, 1)},
		{"the greatest Load twice", runs(0, 1, 2, 7, 3, 0, 5, 7, 8, 2)},
		{"the greatest Load first and last", runs(0, 9, 4, 3, end-1, 9)},
		{"one step", runs(0, great-1, 3, great, 6, great-1)},
		{"far steps", runs(0, great, 3, 0, 6, great, 9, 1)},
		{"at all instants", toothed()},
	}
}

// pit: what may be wrong, and runs of which it is.
type pit struct {
	name string
	rs   []api.Run
}

// bad: runs that may not be, each for one reason.
func bad() []pit {
	longer := append(toothed(), api.Run{From: end, Load: 9})
	return []pit{
		{"no Run", nil},
		{"no Run, a list", []api.Run{}},
		{"the first From above 0", runs(1, 2)},
		{"the first From above 0, of several", runs(1, 2, 3, 4)},
		{"the first From is MaxTime", runs(end, 2)},
		{"the first From below 0", runs(-1, 2)},
		{"the first From below 0, then 0", runs(-1, 2, 0, 3)},
		{"the first From far below 0", runs(math.MinInt, 2, 4, 3)},
		{"a From twice", runs(0, 1, 4, 2, 4, 3)},
		{"0 twice", runs(0, 1, 0, 2)},
		{"a From falls", runs(0, 1, 4, 2, 3, 3)},
		{"a From falls to 0", runs(0, 1, 4, 2, 0, 3)},
		{"a From falls below 0", runs(0, 1, 4, 2, -1, 3)},
		{"the second From below 0", runs(0, 1, -4, 2)},
		{"the second From far below 0", runs(0, 1, math.MinInt, 2)},
		{"a From is MaxTime", runs(0, 1, end, 2)},
		{"a From above MaxTime", runs(0, 1, 4, 2, end+1, 3)},
		{"a From far above", runs(0, 1, math.MaxInt, 2)},
		{"a From above MaxTime between", runs(0, 1, end+1, 2, 4, 3)},
		{"a Load below 0", runs(0, -1)},
		{"a Load below 0 last", runs(0, 1, 4, -1)},
		{"a Load below 0 between", runs(0, 1, 4, -1, 5, 1)},
		{"a Load far below 0", runs(0, math.MinInt, 5, 1)},
		{"a Load above the greatest", runs(0, great+1)},
		{"a Load above the greatest last", runs(0, 1, 4, great+1)},
		{"a Load above the greatest between", runs(0, 1, 4, great+1, 5, 1)},
		{"a Load far above", runs(0, 4, 7, math.MaxInt)},
		{"one Load twice", runs(0, 2, 4, 2)},
		{"one Load twice, behind others", runs(0, 1, 3, 2, 4, 2)},
		{"one Load twice, ahead of others", runs(0, 2, 3, 2, 4, 1)},
		{"0 twice as a Load", runs(0, 0, 4, 0)},
		{"the greatest Load twice beside itself", runs(0, great, 4, great)},
		{"more Runs than instants", longer},
	}
}

// wrongSpans: spans that may not be.
var wrongSpans = []api.Span{
	{}, {From: 5, To: 5}, {From: 5, To: 4}, {From: -1, To: 4}, {From: -4, To: -1}, {From: -1, To: 0}, {From: 0, To: end + 1}, {From: end, To: end},
	{From: end, To: end + 1}, {From: 0, To: math.MaxInt}, {From: math.MinInt, To: 1}, {From: math.MinInt, To: math.MaxInt}, {From: math.MaxInt, To: math.MinInt},
}

// wrongLoads: numbers that are no rates.
var wrongLoads = []int{-1, great + 1, math.MinInt, math.MaxInt, -great}

// wrongInstants: instants that are not from 0 below MaxTime.
var wrongInstants = []int{-1, end, end + 1, math.MinInt, math.MaxInt, -end}

// wrongWeights: Weights whose span may not be, or whose Load is no rate, or both.
func wrongWeights() []api.Weight {
	var ws []api.Weight
	for _, s := range wrongSpans {
		for _, load := range []int{0, 3, great, -1} {
			ws = append(ws, api.Weight{Span: s, Load: load})
		}
	}
	for _, load := range wrongLoads {
		ws = append(ws, over(0, 1, load), over(3, 7, load), over(end-1, end, load), over(0, end, load))
	}
	return ws
}

// fault tells by the words of the chapter why runs may not be a profile; nothing, if they may.
func fault(rs []api.Run) string {
	if len(rs) == 0 {
		return "no Run"
	}
	if rs[0].From != 0 {
		return "the first From"
	}
	for i, r := range rs {
		switch {
		case i > 0 && rs[i-1].From >= r.From:
			return "Froms that do not rise"
		case r.From >= api.MaxTime:
			return "a From not below MaxTime"
		case r.Load < 0 || r.Load > api.MaxRate:
			return "a Load that is no rate"
		case i > 0 && rs[i-1].Load == r.Load:
			return "one Load beside one another"
		}
	}
	return ""
}

func TestFault(t *testing.T) {
	for _, s := range all() {
		if why := fault(s.rs); why != "" {
			t.Errorf("%s: %s", s.name, why)
		}
	}
	for _, p := range bad() {
		if fault(p.rs) == "" {
			t.Errorf("%s: may be", p.name)
		}
	}
}

// P18.1: May.

func TestMay(t *testing.T) {
	for _, s := range all() {
		if !profile.May(s.rs) {
			t.Errorf("%s: may not be", s.name)
		}
	}
	for _, p := range bad() {
		if profile.May(p.rs) {
			t.Errorf("%s: may be", p.name)
		}
	}
}

// P18.1: Build.

// built is what is built, and what is due.
type built struct {
	name string
	ws   []api.Weight
	rs   []api.Run
	err  api.Errno
}

// copies gives one Weight so many times.
func copies(w api.Weight, many int) []api.Weight {
	return slices.Repeat([]api.Weight{w}, many)
}

// stairs gives Weights, each beginning one behind the other, all ending together, and their profile.
func stairs(many int) ([]api.Weight, []api.Run) {
	ws, rs := []api.Weight(nil), runs(0, 0)
	for i := range many {
		ws = append(ws, over(i+1, 100, 3))
		rs = append(rs, api.Run{From: i + 1, Load: 3 * (i + 1)})
	}
	return ws, append(rs, api.Run{From: 100})
}

// row gives Weights, with an instant between each and the next one, and their profile.
func row(many int) ([]api.Weight, []api.Run) {
	var ws []api.Weight
	var rs []api.Run
	for i := range many {
		ws = append(ws, over(2*i, 2*i+1, great-i))
		rs = append(rs, api.Run{From: 2 * i, Load: great - i}, api.Run{From: 2*i + 1})
	}
	return ws, rs
}

// builds: what is built where no Load comes near the greatest rate, and where two become one.
func builds() []built {
	climb, climbed := stairs(api.MaxWeights)
	apart, ofApart := row(api.MaxWeights)
	return []built{
		{"of nothing", nil, runs(0, 0), api.OK},
		{"of an empty list", []api.Weight{}, runs(0, 0), api.OK},
		{"one", []api.Weight{over(3, 9, 2)}, runs(0, 0, 3, 2, 9, 0), api.OK},
		{"one from 0 on", []api.Weight{over(0, 9, 2)}, runs(0, 2, 9, 0), api.OK},
		{"one up to MaxTime", []api.Weight{over(3, end, 2)}, runs(0, 0, 3, 2), api.OK},
		{"one of all the time", []api.Weight{over(0, end, 2)}, runs(0, 2), api.OK},
		{"the first instant", []api.Weight{over(0, 1, 2)}, runs(0, 2, 1, 0), api.OK},
		{"the last instant", []api.Weight{over(end-1, end, 2)}, runs(0, 0, end-1, 2), api.OK},
		{"a Load of 0", []api.Weight{over(3, 9, 0)}, runs(0, 0), api.OK},
		{"a Load of 0 in another", []api.Weight{over(3, 9, 2), over(4, 5, 0)}, runs(0, 0, 3, 2, 9, 0), api.OK},
		{"a Load of 0 of all the time", []api.Weight{over(0, end, 0), over(4, 5, 1)}, runs(0, 0, 4, 1, 5, 0), api.OK},
		{"two that touch", []api.Weight{over(3, 5, 2), over(5, 9, 4)}, runs(0, 0, 3, 2, 5, 4, 9, 0), api.OK},
		{"two that touch, of one Load", []api.Weight{over(3, 5, 2), over(5, 9, 2)}, runs(0, 0, 3, 2, 9, 0), api.OK},
		{"two that touch, the later one first", []api.Weight{over(5, 9, 2), over(3, 5, 2)}, runs(0, 0, 3, 2, 9, 0), api.OK},
		{"two that touch, all the time", []api.Weight{over(0, 5, 2), over(5, end, 2)}, runs(0, 2), api.OK},
		{"two apart", []api.Weight{over(3, 5, 2), over(6, 9, 2)}, runs(0, 0, 3, 2, 5, 0, 6, 2, 9, 0), api.OK},
		{"two that overlap", []api.Weight{over(3, 7, 2), over(5, 9, 4)}, runs(0, 0, 3, 2, 5, 6, 7, 4, 9, 0), api.OK},
		{"one in the other", []api.Weight{over(3, 9, 2), over(5, 7, 4)}, runs(0, 0, 3, 2, 5, 6, 7, 2, 9, 0), api.OK},
		{"one in the other, one From", []api.Weight{over(3, 9, 2), over(3, 7, 4)}, runs(0, 0, 3, 6, 7, 2, 9, 0), api.OK},
		{"one in the other, one To", []api.Weight{over(3, 9, 2), over(7, 9, 4)}, runs(0, 0, 3, 2, 7, 6, 9, 0), api.OK},
		{"one span", []api.Weight{over(3, 9, 2), over(3, 9, 4)}, runs(0, 0, 3, 6, 9, 0), api.OK},
		{"twice the same", copies(over(3, 9, 2), 2), runs(0, 0, 3, 4, 9, 0), api.OK},
		{"a gap filled", []api.Weight{over(3, 5, 2), over(7, 9, 2), over(5, 7, 2)}, runs(0, 0, 3, 2, 9, 0), api.OK},
		{"one ends where two others begin that are as much", []api.Weight{over(3, 5, 4), over(5, 9, 1), over(5, 9, 3)}, runs(0, 0, 3, 4, 9, 0), api.OK},
		{"one ends where one as much begins, another lasts on", []api.Weight{over(2, 9, 5), over(3, 5, 4), over(5, 7, 4)}, runs(0, 0, 2, 5, 3, 9, 7, 5, 9, 0), api.OK},
		{"one filled up to what is beside it", []api.Weight{over(3, 9, 5), over(9, 12, 2), over(9, 12, 3)}, runs(0, 0, 3, 5, 12, 0), api.OK},
		{"as many as may be, one span", copies(over(4, 5, 1), api.MaxWeights), runs(0, 0, 4, api.MaxWeights, 5, 0), api.OK},
		{"as many as may be, as stairs", climb, climbed, api.OK},
		{"as many as may be, apart", apart, ofApart, api.OK},
		{"as many as may be, all of the greatest rate together", copies(over(0, end, great/api.MaxWeights), api.MaxWeights), runs(0, great), api.OK},
	}
}

// brims: what is built at the greatest rate and beyond it, and what is refused.
func brims() []built {
	climb, _ := stairs(api.MaxWeights + 1)
	return []built{
		{"the greatest rate", []api.Weight{over(3, 9, great)}, runs(0, 0, 3, great, 9, 0), api.OK},
		{"the greatest rate twice, touching", []api.Weight{over(3, 5, great), over(5, 9, great)}, runs(0, 0, 3, great, 9, 0), api.OK},
		{"the greatest rate and 0", []api.Weight{over(3, 9, great), over(0, end, 0)}, runs(0, 0, 3, great, 9, 0), api.OK},
		{"the greatest rate together", []api.Weight{over(3, 7, great-4), over(5, 9, 4)}, runs(0, 0, 3, great-4, 5, great, 7, 4, 9, 0), api.OK},
		{"one more", []api.Weight{over(3, 7, great-4), over(5, 9, 5)}, nil, api.ErrProfileOver},
		{"one more, the lesser first", []api.Weight{over(5, 9, 5), over(3, 7, great-4)}, nil, api.ErrProfileOver},
		{"one more at the first instant", []api.Weight{over(0, 1, great), over(0, 9, 1)}, nil, api.ErrProfileOver},
		{"one more at the last instant", []api.Weight{over(end-1, end, great), over(5, end, 1)}, nil, api.ErrProfileOver},
		{"one more at one instant", []api.Weight{over(3, 6, great), over(5, 9, 1)}, nil, api.ErrProfileOver},
		{"one more of three", []api.Weight{over(3, 6, great/2), over(5, 9, great/2), over(5, 6, 1)}, nil, api.ErrProfileOver},
		{"at no instant all three", []api.Weight{over(3, 6, great/2), over(5, 9, great/2), over(6, 7, great/2)}, runs(0, 0, 3, great/2, 5, great, 7, great/2, 9, 0), api.OK},
		{"above it in the midst alone", []api.Weight{over(0, 9, 1), over(20, end, 1), over(10, 14, great), over(13, 17, great)}, nil, api.ErrProfileOver},
		{"twice the greatest rate", copies(over(3, 9, great), 2), nil, api.ErrProfileOver},
		{"four times, where an int would be 0 again", copies(over(3, 9, great), 4), nil, api.ErrProfileOver},
		{"as many as may be of the greatest rate", copies(over(3, 9, great), api.MaxWeights), nil, api.ErrProfileOver},
		{"one more together, as many as may be", append(copies(over(0, end, great/api.MaxWeights), api.MaxWeights-1), over(0, end, great/api.MaxWeights+1)), nil, api.ErrProfileOver},
		{"one more than may be", copies(over(4, 5, 1), api.MaxWeights+1), nil, api.ErrProfileForm},
		{"one more than may be, of 0", copies(over(4, 5, 0), api.MaxWeights+1), nil, api.ErrProfileForm},
		{"one more than may be, as stairs", climb, nil, api.ErrProfileForm},
		{"many more than may be", copies(over(4, 5, 1), 100*api.MaxWeights), nil, api.ErrProfileForm},
		// What is answered where several are due.
		{"too many, above the greatest rate", copies(over(4, 5, great), api.MaxWeights+1), nil, api.ErrProfileForm},
		{"too many, one wrong", append(copies(over(4, 5, 1), api.MaxWeights), over(5, 4, 1)), nil, api.ErrProfileForm},
		{"above the greatest rate, then a wrong span", []api.Weight{over(3, 9, great), over(3, 9, great), over(9, 9, 1)}, nil, api.ErrProfileForm},
		{"above the greatest rate, then a wrong Load", []api.Weight{over(3, 9, great), over(3, 9, great), over(3, 9, -great)}, nil, api.ErrProfileForm},
	}
}

func TestBuild(t *testing.T) {
	for _, b := range append(builds(), brims()...) {
		// What is due is held against the sums at each instant as well.
		if loads, ok := sums(b.ws); b.err != api.ErrProfileForm && (ok != (b.err == api.OK) || !slices.Equal(b.rs, asRuns(loads))) {
			t.Errorf("%s: %v, %d is not due", b.name, b.rs, b.err)
		}
		if b.err == api.OK && fault(b.rs) != "" {
			t.Errorf("%s: %v: %s", b.name, b.rs, fault(b.rs))
		}
		if rs, err := profile.Build(b.ws...); !slices.Equal(rs, b.rs) || err != b.err {
			t.Errorf("%s: Build(%v): %v, %d; want %v, %d", b.name, b.ws, rs, err, b.rs, b.err)
		}
	}
}

func TestBuildInSeveralRows(t *testing.T) {
	for _, b := range append(builds(), brims()...) {
		ws := slices.Clone(b.ws)
		for range min(len(ws), 9) {
			ws = append(ws[1:], ws[0])
			if rs, err := profile.Build(ws...); !slices.Equal(rs, b.rs) || err != b.err {
				t.Errorf("%s: Build(%v): %v, %d; want %v, %d", b.name, ws, rs, err, b.rs, b.err)
			}
		}
		slices.Reverse(ws)
		if rs, err := profile.Build(ws...); !slices.Equal(rs, b.rs) || err != b.err {
			t.Errorf("%s: Build(%v): %v, %d; want %v, %d", b.name, ws, rs, err, b.rs, b.err)
		}
	}
}

func TestBuildOfWrongWeights(t *testing.T) {
	for _, w := range wrongWeights() {
		good := over(3, 9, 2)
		for _, ws := range [][]api.Weight{{w}, {w, good}, {good, w}, {good, w, good}, append(copies(good, api.MaxWeights-1), w), copies(w, api.MaxWeights+1)} {
			if rs, err := profile.Build(ws...); len(rs) != 0 || err != api.ErrProfileForm {
				t.Errorf("Build(%v): %v, %d", ws, rs, err)
			}
		}
	}
}

// P18.1: At and Most.

func TestAt(t *testing.T) {
	for _, s := range all() {
		for at, load := range loadsOf(s.rs) {
			if len(s.rs) > 1000 && at > 90 && at < end-90 && at%7 > 0 {
				continue
			}
			if got, err := profile.At(s.rs, at); got != load || err != api.OK {
				t.Errorf("%s: At %d: %d, %d; want %d", s.name, at, got, err, load)
			}
		}
	}
}

// asked is what Most is asked, and what is due.
type asked struct {
	rs    []api.Run
	s     api.Span
	load  int
	first int
}

func TestMost(t *testing.T) {
	twice := runs(0, 1, 2, 7, 3, 0, 5, 7, 8, 2)
	for _, a := range []asked{
		{runs(0, 0), api.Span{From: 0, To: end}, 0, 0},
		{runs(0, 0), api.Span{From: 9, To: 12}, 0, 9},
		{runs(0, 0), api.Span{From: end - 1, To: end}, 0, end - 1},
		{runs(0, great), api.Span{From: 0, To: 1}, great, 0},
		{runs(0, great), api.Span{From: 7, To: end}, great, 7},
		{twice, api.Span{From: 0, To: end}, 7, 2},
		{twice, api.Span{From: 0, To: 1}, 1, 0},
		{twice, api.Span{From: 0, To: 2}, 1, 0},
		{twice, api.Span{From: 0, To: 3}, 7, 2},
		{twice, api.Span{From: 1, To: 2}, 1, 1},
		{twice, api.Span{From: 2, To: 3}, 7, 2},
		{twice, api.Span{From: 2, To: 6}, 7, 2},
		{twice, api.Span{From: 3, To: 4}, 0, 3},
		{twice, api.Span{From: 3, To: 5}, 0, 3},
		{twice, api.Span{From: 4, To: 5}, 0, 4},
		{twice, api.Span{From: 3, To: 6}, 7, 5},
		{twice, api.Span{From: 6, To: 7}, 7, 6},
		{twice, api.Span{From: 6, To: 9}, 7, 6},
		{twice, api.Span{From: 7, To: end}, 7, 7},
		{twice, api.Span{From: 8, To: end}, 2, 8},
		{twice, api.Span{From: end - 1, To: end}, 2, end - 1},
		{runs(0, 9, 4, 3, end-1, 9), api.Span{From: 0, To: end}, 9, 0},
		{runs(0, 9, 4, 3, end-1, 9), api.Span{From: 3, To: end}, 9, 3},
		{runs(0, 9, 4, 3, end-1, 9), api.Span{From: 4, To: end}, 9, end - 1},
		{runs(0, 9, 4, 3, end-1, 9), api.Span{From: 4, To: end - 1}, 3, 4},
		{runs(0, great, 3, 0, 6, great, 9, 1), api.Span{From: 3, To: 12}, great, 6},
		{runs(0, great, 3, 0, 6, great, 9, 1), api.Span{From: 9, To: 12}, 1, 9},
		{runs(0, great-1, 3, great, 6, great-1), api.Span{From: 1, To: 12}, great, 3},
	} {
		if load, first, err := profile.Most(a.rs, a.s); load != a.load || first != a.first || err != api.OK {
			t.Errorf("Most(%v, %v): %d, %d, %d; want %d, %d", a.rs, a.s, load, first, err, a.load, a.first)
		}
	}
	for _, s := range all() {
		for _, in := range spans(s.rs) {
			mostIs(t, s.rs, in)
		}
	}
}

// P18.2: Add and Take.

// turned is what a profile is turned by, and what is due.
type turned struct {
	name string
	rs   []api.Run
	w    api.Weight
	want []api.Run
	err  api.Errno
}

// adds: what is added.
func adds() []turned {
	two := runs(0, 2, 4, 5, 9, 2)
	return []turned{
		{"one becomes three", runs(0, 2), over(4, 9, 3), runs(0, 2, 4, 5, 9, 2), api.OK},
		{"one becomes two, from 0 on", runs(0, 2), over(0, 9, 3), runs(0, 5, 9, 2), api.OK},
		{"one becomes two, up to MaxTime", runs(0, 2), over(4, end, 3), runs(0, 2, 4, 5), api.OK},
		{"one stays one", runs(0, 2), over(0, end, 3), runs(0, 5), api.OK},
		{"the first instant", runs(0, 2), over(0, 1, 3), runs(0, 5, 1, 2), api.OK},
		{"the last instant", runs(0, 2), over(end-1, end, 3), runs(0, 2, end-1, 5), api.OK},
		{"a Load of 0", two, over(3, 7, 0), two, api.OK},
		{"a Load of 0 to what is full", runs(0, great), over(3, 7, 0), runs(0, great), api.OK},
		{"just one Run", two, over(4, 9, 1), runs(0, 2, 4, 6, 9, 2), api.OK},
		{"over a Run's beginning", two, over(3, 6, 1), runs(0, 2, 3, 3, 4, 6, 6, 5, 9, 2), api.OK},
		{"over a Run's end", two, over(6, 12, 1), runs(0, 2, 4, 5, 6, 6, 9, 3, 12, 2), api.OK},
		{"over all Runs", two, over(0, end, 1), runs(0, 3, 4, 6, 9, 3), api.OK},
		{"within a Run", two, over(5, 6, 1), runs(0, 2, 4, 5, 5, 6, 6, 5, 9, 2), api.OK},
		{"up to the Run beside it", two, over(0, 4, 3), runs(0, 5, 9, 2), api.OK},
		{"up to the Run ahead of it", two, over(9, 12, 3), runs(0, 2, 4, 5, 12, 2), api.OK},
		{"up to the Run ahead of it, to MaxTime", two, over(9, end, 3), runs(0, 2, 4, 5), api.OK},
		{"between two of one Load", runs(0, 7, 4, 1, 9, 7), over(4, 9, 6), runs(0, 7), api.OK},
		{"between two Loads, up to the first", runs(0, 7, 4, 1, 9, 8), over(4, 9, 6), runs(0, 7, 9, 8), api.OK},
		{"between two Loads, up to the second", runs(0, 8, 4, 1, 9, 7), over(4, 9, 6), runs(0, 8, 4, 7), api.OK},
		{"the last Run", two, over(9, end, 1), runs(0, 2, 4, 5, 9, 3), api.OK},
		{"to the greatest rate", two, over(4, 9, great-5), runs(0, 2, 4, great, 9, 2), api.OK},
		{"to the greatest rate, over all", two, over(0, end, great-5), runs(0, great-3, 4, great, 9, great-3), api.OK},
		{"the greatest rate to nothing", runs(0, 0), over(0, end, great), runs(0, great), api.OK},
		{"the greatest rate where nothing is", runs(0, 1, 4, 0, 9, 1), over(4, 9, great), runs(0, 1, 4, great, 9, 1), api.OK},
		{"one more", two, over(4, 9, great-4), nil, api.ErrProfileOver},
		{"one more at its first instant", two, over(0, 5, great-4), nil, api.ErrProfileOver},
		{"one more at its last instant", two, over(8, end, great-4), nil, api.ErrProfileOver},
		{"one more at one instant", runs(0, 0, 4, 1, 5, 0), over(4, 5, great), nil, api.ErrProfileOver},
		{"one more ahead of it and behind it alone", two, over(4, 9, great-5), runs(0, 2, 4, great, 9, 2), api.OK},
		{"too much beside it alone", runs(0, great, 4, 3, 9, great), over(4, 9, 3), runs(0, great, 4, 6, 9, great), api.OK},
		{"one more at the first instant", runs(0, great, 1, 0), over(0, 9, 1), nil, api.ErrProfileOver},
		{"one more at the last instant", runs(0, 0, end-1, great), over(5, end, 1), nil, api.ErrProfileOver},
		{"twice the greatest rate", runs(0, great), over(5, 6, great), nil, api.ErrProfileOver},
	}
}

// takes: what is taken.
func takes() []turned {
	two := runs(0, 2, 4, 5, 9, 2)
	return []turned{
		{"three become one", two, over(4, 9, 3), runs(0, 2), api.OK},
		{"two become one, from 0 on", runs(0, 5, 9, 2), over(0, 9, 3), runs(0, 2), api.OK},
		{"two become one, up to MaxTime", runs(0, 2, 4, 5), over(4, end, 3), runs(0, 2), api.OK},
		{"one becomes three", runs(0, 5), over(4, 9, 3), runs(0, 5, 4, 2, 9, 5), api.OK},
		{"one stays one", runs(0, 5), over(0, end, 3), runs(0, 2), api.OK},
		{"all that is there", runs(0, 5), over(0, end, 5), runs(0, 0), api.OK},
		{"all that is there in a span", runs(0, 5), over(4, 9, 5), runs(0, 5, 4, 0, 9, 5), api.OK},
		{"all that is there of a Run", runs(0, 0, 4, 5, 9, 0), over(4, 9, 5), runs(0, 0), api.OK},
		{"all of the greatest rate", runs(0, great), over(0, end, great), runs(0, 0), api.OK},
		{"all but one of the greatest rate", runs(0, great), over(4, 9, great-1), runs(0, great, 4, 1, 9, great), api.OK},
		{"the first instant", runs(0, 2), over(0, 1, 2), runs(0, 0, 1, 2), api.OK},
		{"the last instant", runs(0, 2), over(end-1, end, 2), runs(0, 2, end-1, 0), api.OK},
		{"a Load of 0", two, over(3, 7, 0), two, api.OK},
		{"a Load of 0 of nothing", runs(0, 0), over(3, 7, 0), runs(0, 0), api.OK},
		{"over a Run's beginning", two, over(3, 6, 1), runs(0, 2, 3, 1, 4, 4, 6, 5, 9, 2), api.OK},
		{"over a Run's end", two, over(6, 12, 1), runs(0, 2, 4, 5, 6, 4, 9, 1, 12, 2), api.OK},
		{"over all Runs", two, over(0, end, 2), runs(0, 0, 4, 3, 9, 0), api.OK},
		{"within a Run", two, over(5, 6, 4), runs(0, 2, 4, 5, 5, 1, 6, 5, 9, 2), api.OK},
		{"down to the Run ahead of it", runs(0, 2, 4, 5, 9, 1), over(4, 9, 3), runs(0, 2, 9, 1), api.OK},
		{"down to the Run behind it", runs(0, 1, 4, 5, 9, 2), over(4, 9, 3), runs(0, 1, 4, 2), api.OK},
		{"one less than it takes", two, over(4, 9, 6), nil, api.ErrProfileUnder},
		{"one less at its first instant", two, over(3, 9, 3), nil, api.ErrProfileUnder},
		{"one less at its last instant", two, over(4, 10, 3), nil, api.ErrProfileUnder},
		{"one less in the midst", runs(0, 5, 4, 2, 5, 5), over(0, end, 3), nil, api.ErrProfileUnder},
		{"too little beside it alone", runs(0, 0, 4, 5, 9, 0), over(5, 8, 5), runs(0, 0, 4, 5, 5, 0, 8, 5, 9, 0), api.OK},
		{"one less at the first instant", runs(0, 0, 1, 4), over(0, 9, 1), nil, api.ErrProfileUnder},
		{"one less at the last instant", runs(0, 4, end-1, 0), over(5, end, 1), nil, api.ErrProfileUnder},
		{"of nothing", runs(0, 0), over(5, 6, 1), nil, api.ErrProfileUnder},
		{"the greatest rate of one less", runs(0, great-1), over(5, 6, great), nil, api.ErrProfileUnder},
		{"the greatest rate of nothing", runs(0, 0), over(0, end, great), nil, api.ErrProfileUnder},
	}
}

func TestAdd(t *testing.T) {
	for _, a := range adds() {
		loads, ok := plus(loadsOf(a.rs), a.w)
		if fault(a.rs) != "" || ok != (a.err == api.OK) || !slices.Equal(a.want, asRuns(loads)) {
			t.Errorf("%s: %v, %d is not due", a.name, a.want, a.err)
		}
		if rs, err := profile.Add(a.rs, a.w); !slices.Equal(rs, a.want) || err != a.err {
			t.Errorf("%s: Add(%v, %v): %v, %d; want %v, %d", a.name, a.rs, a.w, rs, err, a.want, a.err)
		}
		if a.err != api.OK {
			continue
		}
		if rs, err := profile.Take(a.want, a.w); !slices.Equal(rs, a.rs) || err != api.OK {
			t.Errorf("%s: Take(%v, %v): %v, %d; want %v", a.name, a.want, a.w, rs, err, a.rs)
		}
	}
}

func TestTake(t *testing.T) {
	for _, a := range takes() {
		loads, ok := minus(loadsOf(a.rs), a.w)
		if fault(a.rs) != "" || ok != (a.err == api.OK) || !slices.Equal(a.want, asRuns(loads)) {
			t.Errorf("%s: %v, %d is not due", a.name, a.want, a.err)
		}
		if rs, err := profile.Take(a.rs, a.w); !slices.Equal(rs, a.want) || err != a.err {
			t.Errorf("%s: Take(%v, %v): %v, %d; want %v, %d", a.name, a.rs, a.w, rs, err, a.want, a.err)
		}
		if a.err != api.OK {
			continue
		}
		if rs, err := profile.Add(a.want, a.w); !slices.Equal(rs, a.rs) || err != api.OK {
			t.Errorf("%s: Add(%v, %v): %v, %d; want %v", a.name, a.want, a.w, rs, err, a.rs)
		}
	}
}

// P18.1 and P18.2, wrong inputs.

// refused holds what is asked of runs and a Weight against the error, with nothing beside it.
func refused(t *testing.T, name string, rs []api.Run, w api.Weight) {
	t.Helper()
	if got, err := profile.Add(rs, w); len(got) != 0 || err != api.ErrProfileForm {
		t.Errorf("%s: Add(%v, %v): %v, %d", name, rs, w, got, err)
	}
	if got, err := profile.Take(rs, w); len(got) != 0 || err != api.ErrProfileForm {
		t.Errorf("%s: Take(%v, %v): %v, %d", name, rs, w, got, err)
	}
}

func TestOfRunsThatMayNotBe(t *testing.T) {
	for _, p := range bad() {
		for _, at := range []int{0, 1, 3, 4, end - 1, -1, end} {
			if load, err := profile.At(p.rs, at); load != 0 || err != api.ErrProfileForm {
				t.Errorf("%s: At(%v, %d): %d, %d", p.name, p.rs, at, load, err)
			}
		}
		for _, s := range []api.Span{{From: 0, To: end}, {From: 0, To: 1}, {From: 3, To: 5}, {From: end - 1, To: end}, {From: 5, To: 3}} {
			if load, first, err := profile.Most(p.rs, s); load != 0 || first != 0 || err != api.ErrProfileForm {
				t.Errorf("%s: Most(%v, %v): %d, %d, %d", p.name, p.rs, s, load, first, err)
			}
		}
		// Where it would be too much or too little, too.
		for _, w := range append(wrongWeights(), over(0, end, 0), over(0, end, great), over(3, 5, 1), over(0, 1, 1), over(end-1, end, 1)) {
			refused(t, p.name, p.rs, w)
		}
	}
}

func TestOfSpansInstantsAndWeightsThatMayNotBe(t *testing.T) {
	for _, s := range all() {
		for _, at := range wrongInstants {
			if load, err := profile.At(s.rs, at); load != 0 || err != api.ErrProfileForm {
				t.Errorf("%s: At %d: %d, %d", s.name, at, load, err)
			}
		}
		for _, no := range wrongSpans {
			if load, first, err := profile.Most(s.rs, no); load != 0 || first != 0 || err != api.ErrProfileForm {
				t.Errorf("%s: Most in %v: %d, %d, %d", s.name, no, load, first, err)
			}
		}
		for _, w := range wrongWeights() {
			refused(t, s.name, s.rs, w)
		}
	}
}
