// Package rate: see DOC.md, chapter 1.
package rate

import (
	"tollbar/api"
)

// Sum: P1.1.
func Sum(xs ...int) (int, bool) {
	sum := 0
	for _, x := range xs {
		// The room that is left is asked for ahead of the addition, so that none wraps.
		if x < 0 || x > api.MaxRate-sum {
			return 0, false
		}
		sum += x
	}
	return sum, true
}

// Least: P1.1.
func Least(x int, more ...int) int {
	least := x
	for _, y := range more {
		if y < least {
			least = y
		}
	}
	return least
}

// Meter: P1.2.
type Meter struct {
	total int
}

// Add: P1.2.
func (m *Meter) Add(xs ...int) bool {
	more, ok := Sum(xs...)
	if !ok {
		return false
	}
	total, ok := Sum(m.total, more)
	if !ok {
		return false
	}
	m.total = total
	return true
}

// Total: P1.2.
func (m *Meter) Total() int {
	return m.total
}

// Gauge: P1.3. The Meter is embedded, so that its own Add and Total stay at hand.
type Gauge struct {
	Meter
	most int
}

// NewGauge: P1.3.
func NewGauge(most int) *Gauge {
	if most < 0 {
		most = 0
	}
	if most > api.MaxRate {
		most = api.MaxRate
	}
	return &Gauge{most: most}
}

// Add: P1.3.
func (g *Gauge) Add(xs ...int) bool {
	more, ok := Sum(xs...)
	// Room is not asked here: it is 0 both at most and above it, and above it not even 0 may be added.
	if !ok || more > g.most-g.Total() {
		return false
	}
	return g.Meter.Add(more)
}

// Room: P1.3.
func (g *Gauge) Room() int {
	// The Meter's own Add may have gone above most.
	if g.Total() > g.most {
		return 0
	}
	return g.most - g.Total()
}
