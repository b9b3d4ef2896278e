package tree

import (
	"tollbar/api"
)

// check goes through a tree that perhaps may not be, and marks the places that it has come to.
type check struct {
	shape
	taken []bool
	// last is the item that was come to last; its zero value is ahead of all that may be.
	last api.Item
}

// take marks a place; false, if it is none, or was come to before.
func (c *check) take(at int) bool {
	if at < 0 || at >= len(c.taken) || c.taken[at] {
		return false
	}
	c.taken[at] = true
	return true
}

// free tells whether the places in Free are as they may be.
func (c *check) free() bool {
	for _, at := range c.Free {
		if !c.take(at) || c.Nodes[at] != (api.Node{}) {
			return false
		}
	}
	return true
}

// hung tells whether all that hangs at a place is as it may be. A circle ends at the first place that it comes back to.
func (c *check) hung(at int) bool {
	if at == none {
		return true
	}
	if !c.take(at) {
		return false
	}
	n := c.Nodes[at]
	// What is below is asked ahead of what hangs on it, so that no Height or Most is used that is wrong.
	return c.hung(n.Left) && c.follows(n.Item) && c.hung(n.Right) && c.stands(n)
}

// follows tells whether an item may be, and is behind the last one. That all are holds just if on each Left they are ahead, on each Right behind.
func (c *check) follows(it api.Item) bool {
	ok := fits(it) && compare(c.last, it) < 0
	c.last = it
	return ok
}

// stands tells whether a Node's Height and Most are right, and those below it nearly alike in Height.
func (c *check) stands(n api.Node) bool {
	lean := c.lean(n)
	height, most := c.due(n)
	return lean >= -1 && lean <= 1 && n.Height == height && n.Most == most
}
