package impl

import (
	"cmp"
	"slices"
)

// Limits of fabrics.
const (
	MaxWide  = 5
	MaxWorms = 12
	MaxWay   = 30
	MaxMoves = 2000
)

// WormRun is what came of worms in a fabric: which have arrived, how many steps there were, and whether those that are left wait for each other.
type WormRun struct {
	Done  []bool
	Steps int
	Stuck bool
}

// wiresAt is how many numbers of wires each node has, also where it has fewer wires.
const wiresAt = 4

// maxWires is how many numbers of wires there are in the greatest fabric.
const maxWires = wiresAt * MaxWide * MaxWide

// spot is the column and the row of a node, or how many columns and rows a step leads
// on.
type spot struct {
	x int
	y int
}

// plus returns the spot to which a step leads.
func (s spot) plus(step spot) spot { return spot{x: s.x + step.x, y: s.y + step.y} }

// towards returns the step that leads nearer to another spot.
func (s spot) towards(to spot) spot {
	return spot{x: cmp.Compare(to.x, s.x), y: cmp.Compare(to.y, s.y)}
}

// wireSteps are the steps along the wires of a node, in the order of their numbers:
// right, left, down and up.
var wireSteps = [wiresAt]spot{{x: 1, y: 0}, {x: -1, y: 0}, {x: 0, y: 1}, {x: 0, y: -1}}

// fabric is so many columns and rows of nodes. Their numbers may be any: isFabric and
// isNode tell what there is.
type fabric struct {
	w int
	h int
}

// isFabric reports whether there can be so many columns and rows.
func (f fabric) isFabric() bool { return isWide(f.w) && isWide(f.h) }

// isNode reports whether a number is one of the nodes. What is no fabric has none.
func (f fabric) isNode(n int) bool { return f.isFabric() && n >= 0 && n < f.w*f.h }

// spotOf returns where a node is.
func (f fabric) spotOf(node int) spot { return spot{x: node % f.w, y: node / f.w} }

// nodeAt returns the node at a spot.
func (f fabric) nodeAt(at spot) int { return at.x + f.w*at.y }

// wire returns the number of the wire from one node to another one, if there is one.
func (f fabric) wire(a int, b int) (int, bool) {
	if !f.isNode(a) || !f.isNode(b) {
		return 0, false
	}
	from, to := f.spotOf(a), f.spotOf(b)
	for side, step := range wireSteps {
		if from.plus(step) == to {
			return wiresAt*a + side, true
		}
	}
	return 0, false
}

// straight returns the way that goes on with nodes behind its last one, up to a spot
// in the same row or column.
func (f fabric) straight(way []int, to spot) []int {
	at := f.spotOf(way[len(way)-1])
	for at != to {
		at = at.plus(at.towards(to))
		way = append(way, f.nodeAt(at))
	}
	return way
}

// wiresOf returns the wires of a way, in order, if it is one.
func (f fabric) wiresOf(way []int) ([]int, bool) {
	if len(way) < 1 || len(way) > MaxWay || !f.isNode(way[0]) {
		return nil, false
	}
	wires := make([]int, len(way)-1)
	for i := range wires {
		wire, ok := f.wire(way[i], way[i+1])
		if !ok {
			return nil, false
		}
		wires[i] = wire
	}
	return wires, true
}

// wiresOfAll returns the wires of each of several ways, if they are such, not too many.
func (f fabric) wiresOfAll(ways [][]int) ([][]int, bool) {
	if !f.isFabric() || len(ways) > MaxWorms {
		return nil, false
	}
	lists := make([][]int, len(ways))
	for i, way := range ways {
		wires, ok := f.wiresOf(way)
		if !ok {
			return nil, false
		}
		lists[i] = wires
	}
	return lists, true
}

// wireWaits tells for each wire which other ones stand behind it in a way.
type wireWaits [maxWires][maxWires]bool

// wireWaitsOf returns what stands behind what in ways with such wires.
func wireWaitsOf(lists [][]int) wireWaits {
	var waits wireWaits
	for _, wires := range lists {
		for i := 1; i < len(wires); i++ {
			waits[wires[i-1]][wires[i]] = true
		}
	}
	return waits
}

// The colours of wires in a search for rounds: those not come to yet, those along
// which the search came to where it is, and those behind which there is no round.
const (
	wireWhite = iota
	wireGrey
	wireBlack
)

// roundSearch is a depth-first search for rounds.
type roundSearch struct {
	waits   wireWaits
	colours [maxWires]int
}

// comesRound reports whether one comes to a round from a wire on.
func (s *roundSearch) comesRound(wire int) bool {
	if s.colours[wire] != wireWhite {
		return s.colours[wire] == wireGrey
	}
	s.colours[wire] = wireGrey
	for next, waits := range s.waits[wire] {
		if waits && s.comesRound(next) {
			return true
		}
	}
	s.colours[wire] = wireBlack
	return false
}

// heldWires tells for each wire whether a worm has it.
type heldWires [maxWires]bool

// worm is the wires of a way, how many of them a worm has taken, the last of which it
// has, and whether it has arrived. It keeps the place in its way, not the wire, as a
// way can come to a wire twice.
type worm struct {
	wires   []int
	taken   int
	arrived bool
}

// step lets the worm have its turn, and reports whether it did anything.
func (m *worm) step(held *heldWires) bool {
	switch {
	case m.arrived:
		return false
	case m.taken == len(m.wires):
		m.leave(held)
		m.arrived = true
		return true
	case held[m.wires[m.taken]]:
		return false
	}
	m.leave(held)
	held[m.wires[m.taken]] = true
	m.taken++
	return true
}

// leave lets go the wire that the worm has, if it has one.
func (m *worm) leave(held *heldWires) {
	if m.taken > 0 {
		held[m.wires[m.taken-1]] = false
	}
}

// wormDrive is worms, and the wires that they have.
type wormDrive struct {
	worms []worm
	held  heldWires
}

// wormDriveOf returns worms for ways with such wires, ahead of the first step.
func wormDriveOf(lists [][]int) wormDrive {
	worms := make([]worm, len(lists))
	for i, wires := range lists {
		worms[i].wires = wires
	}
	return wormDrive{worms: worms}
}

// step lets all worms have their turn, and reports whether one did anything.
func (d *wormDrive) step() bool {
	did := false
	for i := range d.worms {
		if d.worms[i].step(&d.held) {
			did = true
		}
	}
	return did
}

// goesOn reports whether a worm has not arrived.
func (d *wormDrive) goesOn() bool {
	for _, m := range d.worms {
		if !m.arrived {
			return true
		}
	}
	return false
}

// done returns which worms have arrived.
func (d *wormDrive) done() []bool {
	done := make([]bool, len(d.worms))
	for i, m := range d.worms {
		done[i] = m.arrived
	}
	return done
}

// RouteXY returns the way from one node to another, first along and then down.
func RouteXY(w int, h int, a int, b int) []int {
	f := fabric{w: w, h: h}
	if !f.isNode(a) || !f.isNode(b) {
		return nil
	}
	from, to := f.spotOf(a), f.spotOf(b)
	return f.straight(f.straight([]int{a}, spot{x: to.x, y: from.y}), to)
}

// RouteYX returns the way from one node to another, first down and then along.
func RouteYX(w int, h int, a int, b int) []int {
	// The way back goes along the row of b to the column of a, and then along that.
	way := RouteXY(w, h, b, a)
	slices.Reverse(way)
	return way
}

// WayValid reports whether nodes are a way.
func WayValid(w int, h int, way []int) bool {
	_, ok := fabric{w: w, h: h}.wiresOf(way)
	return ok
}

// WireOf returns the number of the wire from a node to a neighbour, or -1.
func WireOf(w int, h int, a int, b int) int {
	wire, ok := fabric{w: w, h: h}.wire(a, b)
	if !ok {
		return -1
	}
	return wire
}

// WaitsOf returns which wires are held while others are waited for.
func WaitsOf(w int, h int, ways [][]int) [][]int {
	lists, ok := fabric{w: w, h: h}.wiresOfAll(ways)
	if !ok {
		return nil
	}
	var pairs [][]int
	for wire, behind := range wireWaitsOf(lists) {
		for next, waits := range behind {
			if waits {
				pairs = append(pairs, []int{wire, next})
			}
		}
	}
	return pairs
}

// HasRound reports whether such waiting can go round.
func HasRound(w int, h int, ways [][]int) bool {
	lists, ok := fabric{w: w, h: h}.wiresOfAll(ways)
	if !ok {
		return false
	}
	search := roundSearch{waits: wireWaitsOf(lists)}
	for wire := range maxWires {
		if search.comesRound(wire) {
			return true
		}
	}
	return false
}

// RunWorms returns what comes of worms that go along ways.
func RunWorms(w int, h int, ways [][]int) (WormRun, bool) {
	lists, ok := fabric{w: w, h: h}.wiresOfAll(ways)
	if !ok {
		return WormRun{}, false
	}
	d := wormDriveOf(lists)
	var run WormRun
	for d.goesOn() && !run.Stuck {
		run.Stuck = !d.step()
		run.Steps++
	}
	run.Done = d.done()
	return run, true
}

// isWide reports whether a fabric can have so many columns, or rows.
func isWide(n int) bool { return n >= 1 && n <= MaxWide }
