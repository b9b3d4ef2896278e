package profile_test

import (
	"fmt"
	"math/bits"
	"math/rand"
	"slices"
	"sync"
	"testing"

	"tollbar/api"
	"tollbar/profile"
	"tollbar/samples"
)

// loadsOf gives the Load at each instant from 0 below MaxTime of a profile that may be.
func loadsOf(rs []api.Run) []int {
	var loads []int
	for i, r := range rs {
		to := api.MaxTime
		if i < len(rs)-1 {
			to = rs[i+1].From
		}
		for range to - r.From {
			loads = append(loads, r.Load)
		}
	}
	return loads
}

// asRuns gives the one profile that has these Loads at the instants.
func asRuns(loads []int) []api.Run {
	var rs []api.Run
	for at, load := range loads {
		if at == 0 || load != loads[at-1] {
			rs = append(rs, api.Run{From: at, Load: load})
		}
	}
	return rs
}

// sums gives at each instant the sum of the Loads of those whose span has it; false, if one of them is no rate.
func sums(ws []api.Weight) ([]int, bool) {
	loads := make([]int, api.MaxTime)
	for at := range loads {
		// Sums of any size: no more Weights than may be come to 128 bits.
		high, low := uint64(0), uint64(0)
		for _, w := range ws {
			if w.From <= at && at < w.To {
				sum, carry := bits.Add64(low, uint64(w.Load), 0)
				low, high = sum, high+carry
			}
		}
		if high > 0 || low > api.MaxRate {
			return nil, false
		}
		loads[at] = int(low)
	}
	return loads, true
}

// plus gives the Loads with so much more in w's span; false, if one of them is no rate.
func plus(loads []int, w api.Weight) ([]int, bool) {
	more := slices.Clone(loads)
	for at := w.From; at < w.To; at++ {
		if uint64(loads[at])+uint64(w.Load) > api.MaxRate {
			return nil, false
		}
		more[at] += w.Load
	}
	return more, true
}

// minus gives the Loads with so much less in w's span; false, if one of them is below it.
func minus(loads []int, w api.Weight) ([]int, bool) {
	less := slices.Clone(loads)
	for at := w.From; at < w.To; at++ {
		less[at] -= w.Load
		if less[at] < 0 {
			return nil, false
		}
	}
	return less, true
}

func TestSumsPlusAndMinus(t *testing.T) {
	loads, ok := sums([]api.Weight{over(1, 3, 2), over(2, 5, great-2)})
	if !ok || len(loads) != end || !slices.Equal(loads[:6], []int{0, 2, great, great - 2, great - 2, 0}) {
		t.Errorf("sums: %v, %v", loads[:6], ok)
	}
	if _, ok := sums(copies(over(1, 3, great), 4)); ok {
		t.Error("sums of four times the greatest rate")
	}
	if more, ok := plus(loads, over(1, 2, 5)); !ok || !slices.Equal(more[:6], []int{0, 7, great, great - 2, great - 2, 0}) {
		t.Errorf("plus: %v, %v", more[:6], ok)
	}
	if _, ok := plus(loads, over(2, 3, 1)); ok {
		t.Error("plus one more than may be")
	}
	if less, ok := minus(loads, over(1, 4, 2)); !ok || !slices.Equal(less[:6], []int{0, 0, great - 2, great - 4, great - 2, 0}) {
		t.Errorf("minus: %v, %v", less[:6], ok)
	}
	if _, ok := minus(loads, over(0, 2, 1)); ok {
		t.Error("minus more than is there")
	}
	if rs := asRuns(loads); !slices.Equal(rs, runs(0, 0, 1, 2, 2, great, 3, great-2, 5, 0)) || !slices.Equal(loadsOf(rs), loads) {
		t.Errorf("asRuns: %v", rs)
	}
}

// spans: spans that may be, whose ends are where Runs end, beside that, at 0 and at MaxTime.
func spans(rs []api.Run) []api.Span {
	ends := []int{0, 1, 2, 3, end - 2, end - 1, end}
	for _, r := range rs[:min(len(rs), 9)] {
		ends = append(ends, r.From-1, r.From, r.From+1)
	}
	slices.Sort(ends)
	ends = slices.Compact(ends)
	var ss []api.Span
	for _, from := range ends {
		for _, to := range ends {
			if 0 <= from && from < to && to <= end {
				ss = append(ss, api.Span{From: from, To: to})
			}
		}
	}
	return ss
}

// mostIs holds Most against the Loads at the instants of the span.
func mostIs(t *testing.T, rs []api.Run, s api.Span) {
	t.Helper()
	loads := loadsOf(rs)[s.From:s.To]
	load := slices.Max(loads)
	first := s.From + slices.Index(loads, load)
	if got, at, err := profile.Most(rs, s); got != load || at != first || err != api.OK {
		t.Fatalf("Most(%v, %v): %d, %d, %d; want %d, %d", rs, s, got, at, err, load, first)
	}
}

// turns holds Add and Take of a Weight against the profiles of what is then there at each instant.
func turns(t *testing.T, rs []api.Run, w api.Weight, more []api.Run, fits bool, less []api.Run, there bool) {
	t.Helper()
	due, dueLess := api.OK, api.OK
	if !fits {
		due = api.ErrProfileOver
	}
	if !there {
		dueLess = api.ErrProfileUnder
	}
	got, err := profile.Add(rs, w)
	if !slices.Equal(got, more) || err != due {
		t.Fatalf("Add(%v, %v): %v, %d; want %v, %d", rs, w, got, err, more, due)
	}
	if fits {
		if back, err := profile.Take(got, w); !slices.Equal(back, rs) || err != api.OK {
			t.Fatalf("Take(%v, %v): %v, %d; want %v", got, w, back, err, rs)
		}
	}
	got, err = profile.Take(rs, w)
	if !slices.Equal(got, less) || err != dueLess {
		t.Fatalf("Take(%v, %v): %v, %d; want %v, %d", rs, w, got, err, less, dueLess)
	}
	if there {
		if back, err := profile.Add(got, w); !slices.Equal(back, rs) || err != api.OK {
			t.Fatalf("Add(%v, %v): %v, %d; want %v", got, w, back, err, rs)
		}
	}
}

// just gives all lists of so many of these numbers.
func just(numbers []int, length int) [][]int {
	return slices.DeleteFunc(samples.Lists(numbers, length), func(list []int) bool { return len(list) < length })
}

// cells: the time cut at a few instants, the Load in each.
func cells(starts []int, loads []int) []api.Run {
	var rs []api.Run
	for i, from := range starts {
		if i == 0 || loads[i] != loads[i-1] {
			rs = append(rs, api.Run{From: from, Load: loads[i]})
		}
	}
	return rs
}

// All Loads of few in four cells, all Weights that begin and end where cells do: all that may be asked of them.
func TestAllOfFewCells(t *testing.T) {
	fit, unfit, there, none := 0, 0, 0, 0
	for _, starts := range [][]int{{0, 1, 2, 3}, {0, 3, 4, 9}, {0, end - 3, end - 2, end - 1}} {
		ends := append(slices.Clone(starts[1:]), end)
		for _, loads := range just([]int{0, 1, 2, great - 1, great}, 4) {
			rs := cells(starts, loads)
			for from := range 4 {
				for to := from; to < 4; to++ {
					for _, load := range []int{0, 1, 2, great - 1, great} {
						more, less := slices.Clone(loads), slices.Clone(loads)
						fits, has := true, true
						for i := from; i <= to; i++ {
							fits = fits && load <= great-loads[i]
							has = has && loads[i] >= load
							more[i], less[i] = loads[i]+load, loads[i]-load
						}
						var up, down []api.Run
						if fits {
							up, fit = cells(starts, more), fit+1
						} else {
							unfit++
						}
						if has {
							down, there = cells(starts, less), there+1
						} else {
							none++
						}
						turns(t, rs, over(starts[from], ends[to], load), up, fits, down, has)
					}
				}
			}
		}
	}
	if fit < 20000 || unfit < 20000 || there < 20000 || none < 20000 {
		t.Errorf("only %d fit, %d do not, %d are there, %d are not", fit, unfit, there, none)
	}
}

// All Loads of few in five cells: all that can be asked of them.
func TestAtAndMostOfFewCells(t *testing.T) {
	starts := []int{0, 2, 3, 5, 8}
	for _, loads := range just([]int{0, 1, 4}, 5) {
		rs := cells(starts, loads)
		want := loadsOf(rs)
		if !profile.May(rs) || fault(rs) != "" {
			t.Fatalf("%v may not be: %s", rs, fault(rs))
		}
		for at := range 11 {
			if load, err := profile.At(rs, at); load != want[at] || err != api.OK {
				t.Fatalf("At(%v, %d): %d, %d; want %d", rs, at, load, err, want[at])
			}
			for to := at + 1; to < 12; to++ {
				mostIs(t, rs, api.Span{From: at, To: to})
			}
			mostIs(t, rs, api.Span{From: at, To: end})
		}
	}
}

// All runs of few Froms and Loads: those that may be, and what is asked of the others.
func TestMayOfAllFewRuns(t *testing.T) {
	froms, loads := []int{-1, 0, 1, 2, end - 1, end}, []int{-1, 0, 1, great, great + 1}
	may, no := 0, 0
	for many := range 4 {
		for _, f := range just(froms, many) {
			for _, l := range just(loads, many) {
				var rs []api.Run
				for i := range many {
					rs = append(rs, api.Run{From: f[i], Load: l[i]})
				}
				want := fault(rs) == ""
				if profile.May(rs) != want {
					t.Fatalf("May(%v): %v", rs, !want)
				}
				_, err := profile.At(rs, 0)
				if (err == api.OK) != want {
					t.Fatalf("At(%v, 0): %d", rs, err)
				}
				if want {
					may++
				} else {
					no++
				}
			}
		}
	}
	if may < 50 || no < 20000 {
		t.Errorf("only %d may be, %d may not", may, no)
	}
}

// drawn gives a Weight that may be, in one of several parts of the time.
func drawn(r *rand.Rand, loads []int) api.Weight {
	from := r.Intn(30)
	to := from + 1 + r.Intn(12)
	switch r.Intn(8) {
	case 0:
		from = 0
	case 1:
		to = end
	case 2:
		from, to = end-to, end-from
	case 3:
		from = r.Intn(end)
		to = from + 1 + r.Intn(end-from)
	}
	return over(from, to, loads[r.Intn(len(loads))])
}

func TestWhateverIsBuilt(t *testing.T) {
	r := rand.New(rand.NewSource(18))
	count := map[api.Errno]int{}
	for range 400 {
		loads := [][]int{{0, 1, 2, 3}, {0, 1, 1}, {1, 5, great / 4, great / 2}, {great / 64, great/64 + 1}, {0, 7, great}}[r.Intn(5)]
		var ws []api.Weight
		for range r.Intn([]int{3, 9, api.MaxWeights + 1}[r.Intn(3)]) {
			ws = append(ws, drawn(r, loads))
		}
		want, ok := sums(ws)
		due := api.OK
		if !ok {
			due = api.ErrProfileOver
		}
		rs, err := profile.Build(ws...)
		if !slices.Equal(rs, asRuns(want)) || err != due {
			t.Fatalf("Build(%v): %v, %d; want %v, %d", ws, rs, err, asRuns(want), due)
		}
		count[err]++
		if err == api.OK {
			oneByOne(t, r, rs, ws)
		}
	}
	if count[api.OK] < 150 || count[api.ErrProfileOver] < 50 {
		t.Errorf("only %v", count)
	}
}

// oneByOne adds the Weights one behind the other, and takes them away again in another row.
func oneByOne(t *testing.T, r *rand.Rand, rs []api.Run, ws []api.Weight) {
	t.Helper()
	got, err := profile.Build()
	for _, w := range ws {
		if got, err = profile.Add(got, w); err != api.OK || fault(got) != "" {
			t.Fatalf("Add of %v: %v, %d", w, got, err)
		}
	}
	if !slices.Equal(got, rs) {
		t.Fatalf("%v added: %v, built: %v", ws, got, rs)
	}
	for _, s := range []api.Span{{From: 0, To: end}, drawn(r, []int{0}).Span, drawn(r, []int{0}).Span} {
		mostIs(t, rs, s)
	}
	for _, i := range r.Perm(len(ws)) {
		if got, err = profile.Take(got, ws[i]); err != api.OK || fault(got) != "" {
			t.Fatalf("Take of %v: %v, %d", ws[i], got, err)
		}
	}
	if !slices.Equal(got, runs(0, 0)) {
		t.Fatalf("%v added and taken: %v", ws, got)
	}
}

func TestWhateverIsAddedAndTaken(t *testing.T) {
	r := rand.New(rand.NewSource(1818))
	over, under, long := 0, 0, 0
	for range 40 {
		loads := [][]int{{0, 1, 2, 3}, {1, 2}, {1, great / 3, great / 2, great - 1}}[r.Intn(3)]
		rs := runs(0, []int{0, 3, great / 2, great}[r.Intn(4)])
		for range 60 {
			w := drawn(r, loads)
			now := loadsOf(rs)
			more, fits := plus(now, w)
			less, there := minus(now, w)
			turns(t, rs, w, asRuns(more), fits, asRuns(less), there)
			if !fits {
				over++
			}
			if !there {
				under++
			}
			if r.Intn(3) > 0 && fits {
				rs = asRuns(more)
			} else if there {
				rs = asRuns(less)
			}
			long = max(long, len(rs))
			at := r.Intn(40)
			if load, err := profile.At(rs, at); load != loadsOf(rs)[at] || err != api.OK {
				t.Fatalf("At(%v, %d): %d, %d", rs, at, load, err)
			}
			mostIs(t, rs, drawn(r, loads).Span)
		}
	}
	if over < 200 || under < 200 || long < 40 {
		t.Errorf("only %d over, %d under, %d Runs", over, under, long)
	}
}

// As many Runs as may be, turned in spans of all lengths.
func TestOfAsManyRunsAsMayBe(t *testing.T) {
	rs := toothed()
	now := loadsOf(rs)
	for _, w := range []api.Weight{over(0, end, 1), over(0, end, great-4), over(0, end, great-3), over(0, 1, 1), over(end-1, end, 3), over(7, 8, 4), over(100, 4000, 0), over(100, 4000, 2)} {
		more, fits := plus(now, w)
		less, there := minus(now, w)
		turns(t, rs, w, asRuns(more), fits, asRuns(less), there)
	}
}

// R4.

// roomy gives a list of Runs with spare room, and the whole of it.
func roomy(rs []api.Run) ([]api.Run, []api.Run) {
	return samples.Roomy(rs, api.Run{From: -5, Load: -5})
}

// spoil writes over Runs and their spare room.
func spoil(rs []api.Run) {
	for i := range rs[:cap(rs)] {
		rs[:cap(rs)][i] = api.Run{From: -5, Load: -5}
	}
}

// told gives what is answered as text, to hold it against itself later.
func told(rs []api.Run, err api.Errno) string {
	return fmt.Sprint(rs, int(err))
}

// asks: what is asked of runs; what is answered, as text, and the list of it, if there is one.
func asks(w api.Weight) []func(rs []api.Run) (string, []api.Run) {
	return []func(rs []api.Run) (string, []api.Run){
		func(rs []api.Run) (string, []api.Run) {
			more, err := profile.Add(rs, w)
			return told(more, err), more
		},
		func(rs []api.Run) (string, []api.Run) {
			less, err := profile.Take(rs, w)
			return told(less, err), less
		},
		func(rs []api.Run) (string, []api.Run) {
			load, err := profile.At(rs, w.From)
			return fmt.Sprint(load, int(err)), nil
		},
		func(rs []api.Run) (string, []api.Run) {
			load, first, err := profile.Most(rs, w.Span)
			return fmt.Sprint(load, first, int(err)), nil
		},
		func(rs []api.Run) (string, []api.Run) {
			return fmt.Sprint(profile.May(rs)), nil
		},
	}
}

// What is handed in stays as it is, spare room too; what is answered is neither of it nor of another answer.
func TestMemory(t *testing.T) {
	ws := []api.Weight{over(0, end, 0), over(0, end, 1), over(2, 4, 0), over(2, 4, 1), over(3, 9, great), over(5, 5, 1)}
	for _, s := range append(all(), sample{"may not be", bad()[8].rs}) {
		for _, w := range ws {
			for k, ask := range asks(w) {
				rs, whole := roomy(s.rs)
				was := slices.Clone(whole)
				first, list := ask(rs)
				second, _ := ask(rs)
				spoil(list)
				third, list := ask(rs)
				if first != second || first != third {
					t.Errorf("%s, ask %d of %v: %s, then %s, then %s", s.name, k, w, first, second, third)
				}
				spoil(rs)
				if again := fmt.Sprint(list); len(list) > 0 && first[:len(again)] != again {
					t.Errorf("%s, ask %d of %v: %s, was %s", s.name, k, w, again, first)
				}
				copy(whole, was)
				ask(rs)
				spoil(list)
				if !slices.Equal(whole, was) {
					t.Errorf("%s, ask %d of %v: turned", s.name, k, w)
				}
			}
		}
	}
}

// What is built is neither of the Weights nor of another answer, and these stay as they are.
func TestMemoryOfWhatIsBuilt(t *testing.T) {
	for _, b := range append(builds(), brims()...) {
		ws, whole := samples.Roomy(b.ws, over(-5, -5, -5))
		was := slices.Clone(whole)
		first, err := profile.Build(ws...)
		second, _ := profile.Build(ws...)
		text := told(first, err)
		spoil(second)
		if !slices.Equal(whole, was) {
			t.Errorf("%s: turned", b.name)
		}
		for i := range whole {
			whole[i] = over(-5, -5, -5)
		}
		if is := told(first, err); is != text || is != told(b.rs, b.err) {
			t.Errorf("%s: %s, was %s", b.name, is, text)
		}
	}
}

// R5.

// The same is answered, whenever and from wherever it is asked.
func TestFromSeveralGoroutines(t *testing.T) {
	ss, bs := all(), append(builds(), brims()...)
	tell := func() string {
		text := ""
		for _, s := range ss[:len(ss)-1] {
			for _, ask := range asks(over(2, 8, 2)) {
				answer, _ := ask(s.rs)
				text += answer
			}
		}
		for _, b := range bs {
			text += told(profile.Build(b.ws...))
		}
		return text
	}
	want := tell()
	var all sync.WaitGroup
	got := make([]string, 8)
	for i := range got {
		all.Go(func() { got[i] = tell() })
	}
	all.Wait()
	for i, text := range got {
		if text != want {
			t.Errorf("goroutine %d: %s, want %s", i, text, want)
		}
	}
}
