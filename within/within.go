// Package within tells what lies within the bounds that a graph sets; several layers ask it.
package within

import (
	"tollbar/api"
)

// Caps tells whether caps are of g, if it may be.
func Caps(g api.Graph, caps []int) bool {
	if len(caps) != len(g.Links) {
		return false
	}
	for i, c := range caps {
		// Its link's Cap is a rate, so that what is not above it is not held against MaxRate.
		if c < 0 || c > g.Links[i].Cap {
			return false
		}
	}
	return true
}
