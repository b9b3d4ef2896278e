package profile

import (
	"tollbar/api"
	"tollbar/rate"
	"tollbar/span"
)

// isRate: a sum of one alone asks for the bounds of a rate.
func isRate(x int) bool {
	_, ok := rate.Sum(x)
	return ok
}

// formed tells whether a Weight may stand in a profile.
func formed(w api.Weight) bool {
	return span.May(w.Span) && isRate(w.Load)
}

// parts cuts all the time where a Weight begins or ends: in each of them the Loads together are one.
func parts(ws []api.Weight) []api.Span {
	var ends []int
	for _, w := range ws {
		ends = append(ends, w.From, w.To)
	}
	// All the time is a span that may be, so that nothing is refused.
	ps, _ := span.Cut(api.Span{From: 0, To: api.MaxTime}, ends...)
	return ps
}

// together adds up the Loads of those whose span has the instant; false, if they are no rate.
func together(ws []api.Weight, at int) (int, bool) {
	var m rate.Meter
	for _, w := range ws {
		if span.Has(w.Span, at) && !m.Add(w.Load) {
			return 0, false
		}
	}
	return m.Total(), true
}

// goOn puts a Run behind the others, unless the last one's Load just lasts on.
func goOn(rs []api.Run, from int, load int) []api.Run {
	if len(rs) > 0 && rs[len(rs)-1].Load == load {
		return rs
	}
	return append(rs, api.Run{From: from, Load: load})
}

// lasts gives the span in which the i-th Run's Load is there.
func lasts(rs []api.Run, i int) api.Span {
	if i+1 < len(rs) {
		return api.Span{From: rs[i].From, To: rs[i+1].From}
	}
	return api.Span{From: rs[i].From, To: api.MaxTime}
}

// turn gives the profile in which each Load in the span is what it becomes; false, if one of them can't.
func turn(rs []api.Run, s api.Span, become func(load int) (int, bool)) ([]api.Run, bool) {
	var turned []api.Run
	for i, r := range rs {
		// A Run of a profile that may be lasts over a span that may be, so that nothing is refused.
		ps, _ := span.Cut(lasts(rs, i), s.From, s.To)
		for _, part := range ps {
			load, ok := r.Load, true
			if span.Has(s, part.From) {
				load, ok = become(r.Load)
			}
			if !ok {
				return nil, false
			}
			turned = goOn(turned, part.From, load)
		}
	}
	return turned, true
}
