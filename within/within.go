// Package within tells what lies within the bounds that a graph sets; several layers ask it.
package within

import (
	"tollbar/api"
)

// Verts tells whether all of vs are vertices of g.
func Verts(g api.Graph, vs ...int) bool {
	return areBelow(g.Verts, vs)
}

// Links tells whether all of ls are links of g.
func Links(g api.Graph, ls ...int) bool {
	return areBelow(len(g.Links), ls)
}

// Arcs tells whether all of as are arcs of g.
func Arcs(g api.Graph, as ...int) bool {
	// Each link has two: there and back.
	return areBelow(2*len(g.Links), as)
}

// Caps tells whether caps are of g, if it may be.
func Caps(g api.Graph, caps []int) bool {
	var most []int
	for _, l := range g.Links {
		most = append(most, l.Cap)
	}
	return Rates(most, caps)
}

// Rates tells whether f lies within caps, if these are rates.
func Rates(caps []int, f []int) bool {
	if len(f) != len(caps) {
		return false
	}
	for i, x := range f {
		// Its cap is a rate, so that what is not above it is not held against MaxRate.
		if x < 0 || x > caps[i] {
			return false
		}
	}
	return true
}

// areBelow tells whether all numbers name one of so many things.
func areBelow(many int, numbers []int) bool {
	for _, n := range numbers {
		if n < 0 || n >= many {
			return false
		}
	}
	return true
}
