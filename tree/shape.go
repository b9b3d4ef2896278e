package tree

import (
	"slices"

	"tollbar/api"
	"tollbar/span"
)

// none is the place of no Node.
const none = -1

// shape is a tree with what is done within it.
type shape struct {
	api.Tree
}

// copied gives a tree in memory of its own.
func copied(t api.Tree) *shape {
	return &shape{api.Tree{Nodes: slices.Clone(t.Nodes), Root: t.Root, Free: slices.Clone(t.Free)}}
}

// height gives the Height at a place.
func (s shape) height(at int) int {
	if at == none {
		return 0
	}
	return s.Nodes[at].Height
}

// most gives the Most at a place; of none 0, which is below each To.
func (s shape) most(at int) int {
	if at == none {
		return 0
	}
	return s.Nodes[at].Most
}

// lean tells by how much the Left of a Node is higher than its Right.
func (s shape) lean(n api.Node) int {
	return s.height(n.Left) - s.height(n.Right)
}

// due gives what a Node's Height and Most are to be.
func (s shape) due(n api.Node) (int, int) {
	return 1 + max(s.height(n.Left), s.height(n.Right)), max(n.To, s.most(n.Left), s.most(n.Right))
}

// meets adds to items those at and below a place whose span meets w.
func (s shape) meets(at int, w api.Span, items []api.Item) []api.Item {
	if at == none || s.Nodes[at].Most <= w.From {
		return items
	}
	n := s.Nodes[at]
	items = s.meets(n.Left, w, items)
	// What is on the Right begins no earlier.
	if n.From >= w.To {
		return items
	}
	if span.Meets(n.Span, w) {
		items = append(items, n.Item)
	}
	return s.meets(n.Right, w, items)
}

// place gives an item a place that is free, or one more.
func (s *shape) place(it api.Item) int {
	n := api.Node{Item: it, Left: none, Right: none, Height: 1, Most: it.To}
	last := len(s.Free) - 1
	if last < 0 {
		s.Nodes = append(s.Nodes, n)
		return len(s.Nodes) - 1
	}
	at := s.Free[last]
	s.Free = s.Free[:last]
	s.Nodes[at] = n
	return at
}

// clear makes a place free.
func (s *shape) clear(at int) {
	s.Nodes[at] = api.Node{}
	s.Free = append(s.Free, at)
}

// hang hangs the Node at a place below top, and gives the place that is on top then.
func (s *shape) hang(top int, at int) int {
	if top == none {
		return at
	}
	n := &s.Nodes[top]
	if compare(s.Nodes[at].Item, n.Item) < 0 {
		n.Left = s.hang(n.Left, at)
	} else {
		n.Right = s.hang(n.Right, at)
	}
	return s.even(top)
}

// drop takes an item that is there from below top, and gives the place that is on top then.
func (s *shape) drop(top int, it api.Item) int {
	n := &s.Nodes[top]
	turn := compare(it, n.Item)
	switch {
	case turn < 0:
		n.Left = s.drop(n.Left, it)
	case turn > 0:
		n.Right = s.drop(n.Right, it)
	case n.Left == none || n.Right == none:
		// At most one of them is a place, and none lies below all places.
		only := max(n.Left, n.Right)
		s.clear(top)
		return only
	default:
		// The next item in the row has nothing on its Left, so that its place can go.
		n.Item = s.first(n.Right)
		n.Right = s.drop(n.Right, n.Item)
	}
	return s.even(top)
}

// first gives the first item at and below a place.
func (s *shape) first(at int) api.Item {
	for s.Nodes[at].Left != none {
		at = s.Nodes[at].Left
	}
	return s.Nodes[at].Item
}

// even sets a Node's Height and Most, and gives the place that is on top then: where one below it is 2 higher than the other one, that one is raised.
func (s *shape) even(at int) int {
	n := &s.Nodes[at]
	lean := s.lean(*n)
	switch {
	case lean > 1:
		// What goes over to the other side must not be the higher part.
		if s.lean(s.Nodes[n.Left]) < 0 {
			n.Left = s.raiseRight(n.Left)
		}
		return s.raiseLeft(at)
	case lean < -1:
		if s.lean(s.Nodes[n.Right]) > 0 {
			n.Right = s.raiseLeft(n.Right)
		}
		return s.raiseRight(at)
	}
	s.settle(at)
	return at
}

// raiseLeft puts what is on the Left of a Node on top of it.
func (s *shape) raiseLeft(at int) int {
	n := &s.Nodes[at]
	top := n.Left
	n.Left, s.Nodes[top].Right = s.Nodes[top].Right, at
	s.settle(at)
	s.settle(top)
	return top
}

// raiseRight puts what is on the Right of a Node on top of it.
func (s *shape) raiseRight(at int) int {
	n := &s.Nodes[at]
	top := n.Right
	n.Right, s.Nodes[top].Left = s.Nodes[top].Left, at
	s.settle(at)
	s.settle(top)
	return top
}

// settle sets a Node's Height and Most.
func (s *shape) settle(at int) {
	n := &s.Nodes[at]
	n.Height, n.Most = s.due(*n)
}
