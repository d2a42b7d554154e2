package tests

import (
	"cmp"
	"slices"
	"testing"

	"loop.example/wholenet/impl"
)

// notWides are numbers of columns or rows that there cannot be.
var notWides = append([]int{0, 6, 7, 10, 25}, strangeNumbers...)

// gridOf returns the nodes of a fabric row by row, as the test numbers them.
func gridOf(w, h int) [][]int {
	grid := make([][]int, h)
	for node := range w * h {
		y := node / w
		grid[y] = append(grid[y], node)
	}
	return grid
}

// nodeIn returns the node of a grid in a column and a row, or -1.
func nodeIn(grid [][]int, x, y int) int {
	if y < 0 || y >= len(grid) || x < 0 || x >= len(grid[y]) {
		return -1
	}
	return grid[y][x]
}

// wiresFrom returns the nodes to which wires lead from one, by the numbers of the
// wires, as the test reckons them.
func wiresFrom(w, h, node int) map[int]int {
	grid := gridOf(w, h)
	x, y := node%w, node/w
	wires := map[int]int{}
	for side, to := range []int{nodeIn(grid, x+1, y), nodeIn(grid, x-1, y), nodeIn(grid, x, y+1), nodeIn(grid, x, y-1)} {
		if to >= 0 {
			wires[4*node+side] = to
		}
	}
	return wires
}

// wireByHand returns the wire from one node to another one, as the test reckons it, or -1.
func wireByHand(w, h, a, b int) int {
	if a < 0 || a >= w*h {
		return -1
	}
	for wire, to := range wiresFrom(w, h, a) {
		if to == b {
			return wire
		}
	}
	return -1
}

// isWayByHand reports whether nodes are a way, as the test reckons it.
func isWayByHand(w, h int, way []int) bool {
	if len(way) == 1 {
		return way[0] >= 0 && way[0] < w*h
	}
	for i := 1; i < len(way); i++ {
		if wireByHand(w, h, way[i-1], way[i]) < 0 {
			return false
		}
	}
	return len(way) >= 1 && len(way) <= 30
}

// between returns the numbers from one to another one, both with them.
func between(a, b int) []int {
	list := upTo(min(a, b), max(a, b)+1)
	if b < a {
		slices.Reverse(list)
	}
	return list
}

// routeByHand returns the way along the row of a and the column of b, as the test
// reckons it.
func routeByHand(w, h, a, b int) []int {
	grid := gridOf(w, h)
	var way []int
	for _, x := range between(a%w, b%w) {
		way = append(way, grid[a/w][x])
	}
	for _, y := range between(a/w, b/w)[1:] {
		way = append(way, grid[y][b%w])
	}
	return way
}

// reversed returns a list the other way round.
func reversed(list []int) []int {
	list = slices.Clone(list)
	slices.Reverse(list)
	return list
}

// wiresByHand returns the wires of a way, as the test reckons them.
func wiresByHand(w, h int, way []int) []int {
	var wires []int
	for i := 1; i < len(way); i++ {
		wires = append(wires, wireByHand(w, h, way[i-1], way[i]))
	}
	return wires
}

// waitsByPairs returns the pairs of wires in ways, as the test reckons them.
func waitsByPairs(w, h int, ways [][]int) [][]int {
	var pairs [][]int
	for _, way := range ways {
		wires := wiresByHand(w, h, way)
		for i := 1; i < len(wires); i++ {
			pairs = append(pairs, []int{wires[i-1], wires[i]})
		}
	}
	slices.SortFunc(pairs, slices.Compare)
	return slices.CompactFunc(pairs, slices.Equal)
}

// goRound reports whether pairs go round, as the test reckons it: whether some are
// left when those behind whose second number no pair goes on are taken away, again
// and again.
func goRound(pairs [][]int) bool {
	pairs = slices.Clone(pairs)
	for {
		goesOn := map[int]bool{}
		for _, pair := range pairs {
			goesOn[pair[0]] = true
		}
		left := slices.DeleteFunc(slices.Clone(pairs), func(pair []int) bool { return !goesOn[pair[1]] })
		if len(left) == len(pairs) {
			return len(pairs) > 0
		}
		pairs = left
	}
}

// wormsByHand returns what comes of worms, as the test reckons it: each has the wires
// that it still needs, the first of which it has once it has set out.
func wormsByHand(w, h int, ways [][]int) impl.WormRun {
	run := impl.WormRun{Done: make([]bool, len(ways))}
	needs, hasOne := make([][]int, len(ways)), make([]bool, len(ways))
	for i, way := range ways {
		needs[i] = wiresByHand(w, h, way)
	}
	isFree := func(wire int) bool {
		for i := range ways {
			if hasOne[i] && needs[i][0] == wire {
				return false
			}
		}
		return true
	}
	for slices.Contains(run.Done, false) {
		run.Steps++
		before, arrived := sumOfLengths(needs), countOf(run.Done)
		sets := slices.Clone(hasOne)
		for i := range ways {
			switch {
			case run.Done[i]:
			case len(needs[i]) == 0 || hasOne[i] && len(needs[i]) == 1:
				needs[i], hasOne[i], run.Done[i] = nil, false, true
			case !hasOne[i]:
				hasOne[i] = isFree(needs[i][0])
			case isFree(needs[i][1]):
				needs[i] = needs[i][1:]
			}
		}
		if sumOfLengths(needs) == before && countOf(run.Done) == arrived && slices.Equal(sets, hasOne) {
			run.Stuck = true
			return run
		}
	}
	return run
}

// sumOfLengths returns how many numbers lists have.
func sumOfLengths(lists [][]int) int { return len(slices.Concat(lists...)) }

// countOf returns how many of a list are true.
func countOf(list []bool) int {
	many := 0
	for _, x := range list {
		if x {
			many++
		}
	}
	return many
}

// sameWorms reports whether the same came of worms.
func sameWorms(a, b impl.WormRun) bool {
	return slices.Equal(a.Done, b.Done) && a.Steps == b.Steps && a.Stuck == b.Stuck
}

// checkWays holds all that the chapter tells of ways against the reckonings, and
// returns what came of the worms.
func checkWays(t *testing.T, w, h int, ways [][]int) impl.WormRun {
	t.Helper()
	pairs := waitsByPairs(w, h, ways)
	if got := impl.WaitsOf(w, h, ways); !sameLists(got, pairs) {
		t.Fatalf("WaitsOf(%d, %d, %v) = %v, want %v", w, h, ways, got, pairs)
	}
	round := goRound(pairs)
	if got := impl.HasRound(w, h, ways); got != round {
		t.Fatalf("HasRound(%d, %d, %v) = %v, want %v", w, h, ways, got, round)
	}
	want := wormsByHand(w, h, ways)
	got, ok := impl.RunWorms(w, h, ways)
	if !ok || !sameWorms(got, want) {
		t.Fatalf("RunWorms(%d, %d, %v) = %v, %v, want %v", w, h, ways, got, ok, want)
	}
	checkNobodyStuck(t, w, h, ways, got)
	return got
}

// checkNobodyStuck is promise 16, for what came of worms: where waiting cannot go
// round, nobody is stuck, and all arrive.
func checkNobodyStuck(t *testing.T, w, h int, ways [][]int, run impl.WormRun) {
	t.Helper()
	left := slices.Contains(run.Done, false)
	if left != run.Stuck || len(run.Done) != len(ways) {
		t.Fatalf("RunWorms(%d, %d, %v) = %v", w, h, ways, run)
	}
	if left && !impl.HasRound(w, h, ways) {
		t.Fatalf("RunWorms(%d, %d, %v) = %v, but waiting does not go round", w, h, ways, run)
	}
}

// checkNoWays looks whether something is returned for what are no ways of a fabric.
func checkNoWays(t *testing.T, w, h int, ways [][]int) {
	t.Helper()
	if got := impl.WaitsOf(w, h, ways); len(got) != 0 {
		t.Errorf("WaitsOf(%d, %d, %v) = %v", w, h, ways, got)
	}
	if impl.HasRound(w, h, ways) {
		t.Errorf("HasRound(%d, %d, %v) = true", w, h, ways)
	}
	if got, ok := impl.RunWorms(w, h, ways); ok || len(got.Done) != 0 || got.Steps != 0 || got.Stuck {
		t.Errorf("RunWorms(%d, %d, %v) = %v, %v", w, h, ways, got, ok)
	}
}

// waysUpTo returns all ways of a fabric with at most so many nodes.
func waysUpTo(w, h, many int) [][]int {
	var ways, last [][]int
	for node := range w * h {
		last = append(last, []int{node})
	}
	for range many {
		ways = append(ways, last...)
		var next [][]int
		for _, way := range last {
			for _, to := range wiresFrom(w, h, way[len(way)-1]) {
				next = append(next, append(slices.Clone(way), to))
			}
		}
		slices.SortFunc(next, slices.Compare)
		last = next
	}
	return ways
}

// nextNodes returns the neighbours of a node, ascending.
func nextNodes(w, h, node int) []int {
	var list []int
	for _, to := range wiresFrom(w, h, node) {
		list = append(list, to)
	}
	slices.Sort(list)
	return list
}

// mixedWay returns a way of so many nodes that has no short period. In a fabric of one
// node there is only that.
func mixedWay(w, h, many, seed int) []int {
	way := mixedNumbers(1, w*h, seed)
	for _, turn := range mixedNumbers(many-1, 60, seed+17) {
		if near := nextNodes(w, h, way[len(way)-1]); len(near) > 0 {
			way = append(way, near[turn%len(near)])
		}
	}
	return way
}

// mixedWays returns so many ways of at most so many nodes.
func mixedWays(w, h, many, most, seed int) [][]int {
	ways := make([][]int, many)
	for i, more := range mixedNumbers(many, most, seed) {
		ways[i] = mixedWay(w, h, more+1, seed*13+i*101)
	}
	return ways
}

// mixedRoutes returns the ways of a router between so many pairs of nodes.
func mixedRoutes(route func(w, h, a, b int) []int, w, h, many, seed int) [][]int {
	from, to := mixedNumbers(many, w*h, seed), mixedNumbers(many, w*h, seed+53)
	ways := make([][]int, many)
	for i := range ways {
		ways[i] = route(w, h, from[i], to[i])
	}
	return ways
}

// forFabrics calls a function for all fabrics.
func forFabrics(call func(w, h int)) {
	for code := range 25 {
		call(code%5+1, code/5+1)
	}
}

func TestFabricConstants(t *testing.T) {
	if impl.MaxWide != 5 || impl.MaxWorms != 12 || impl.MaxWay != 30 {
		t.Errorf("MaxWide, MaxWorms and MaxWay are %d, %d and %d", impl.MaxWide, impl.MaxWorms, impl.MaxWay)
	}
}

func TestWireOf(t *testing.T) {
	cases := []struct {
		name       string
		w, h, a, b int
		want       int
	}{
		{"to the right", 3, 2, 0, 1, 0},
		{"to the left", 3, 2, 1, 0, 5},
		{"down", 3, 2, 0, 3, 2},
		{"up", 3, 2, 3, 0, 15},
		{"the last one", 5, 5, 24, 19, 99},
		{"down in one column", 1, 5, 3, 4, 14},
		{"up in one column", 1, 5, 4, 3, 19},
		{"in one row", 5, 1, 3, 4, 12},
		{"from the end of a row to the next row", 3, 2, 2, 3, -1},
		{"from the begin of a row to the row ahead", 3, 2, 3, 2, -1},
		{"across", 3, 2, 0, 4, -1},
		{"to itself", 3, 2, 4, 4, -1},
		{"two to the right", 3, 2, 0, 2, -1},
		{"two down", 2, 3, 0, 4, -1},
		{"to the right of the last node", 5, 5, 24, 25, -1},
		{"up from the first row", 3, 2, 1, -2, -1},
		{"in a fabric of one node", 1, 1, 0, 0, -1},
		{"too many columns", 6, 2, 0, 1, -1},
		{"too many rows", 2, 6, 0, 1, -1},
		{"no columns", 0, 2, 0, 1, -1},
		{"no rows", 2, 0, 0, 1, -1},
	}
	for _, c := range cases {
		if got := impl.WireOf(c.w, c.h, c.a, c.b); got != c.want {
			t.Errorf("%s: WireOf(%d, %d, %d, %d) = %d, want %d", c.name, c.w, c.h, c.a, c.b, got, c.want)
		}
	}
}

// TestAllWires looks at all wires of all fabrics, and at what are none.
func TestAllWires(t *testing.T) {
	forFabrics(func(w, h int) {
		numbers := append(upTo(-7, 33), strangeNumbers...)
		for _, a := range numbers {
			for _, b := range numbers {
				want := wireByHand(w, h, a, b)
				if got := impl.WireOf(w, h, a, b); got != want {
					t.Errorf("WireOf(%d, %d, %d, %d) = %d, want %d", w, h, a, b, got, want)
				}
				if got := impl.WayValid(w, h, []int{a, b}); got != (want >= 0) {
					t.Errorf("WayValid(%d, %d, %d and %d) = %v", w, h, a, b, got)
				}
			}
		}
	})
}

func TestRoutes(t *testing.T) {
	cases := []struct {
		name       string
		w, h, a, b int
		xy, yx     []int
	}{
		{"the given test's", 3, 2, 0, 5, []int{0, 1, 2, 5}, []int{0, 3, 4, 5}},
		{"back", 3, 2, 5, 0, []int{5, 4, 3, 0}, []int{5, 2, 1, 0}},
		{"right and up", 3, 3, 6, 2, []int{6, 7, 8, 5, 2}, []int{6, 3, 0, 1, 2}},
		{"left and down", 3, 3, 2, 6, []int{2, 1, 0, 3, 6}, []int{2, 5, 8, 7, 6}},
		{"to itself", 3, 3, 4, 4, []int{4}, []int{4}},
		{"to a neighbour", 3, 3, 4, 1, []int{4, 1}, []int{4, 1}},
		{"in a row", 4, 2, 7, 4, []int{7, 6, 5, 4}, []int{7, 6, 5, 4}},
		{"in a column", 2, 4, 1, 7, []int{1, 3, 5, 7}, []int{1, 3, 5, 7}},
		{"in one column alone", 1, 4, 3, 0, []int{3, 2, 1, 0}, []int{3, 2, 1, 0}},
		{"in a fabric of one node", 1, 1, 0, 0, []int{0}, []int{0}},
		{"as far as can be", 5, 5, 0, 24, []int{0, 1, 2, 3, 4, 9, 14, 19, 24}, []int{0, 5, 10, 15, 20, 21, 22, 23, 24}},
		{"from no node", 3, 2, 6, 0, nil, nil},
		{"to no node", 3, 2, 0, 6, nil, nil},
		{"from below 0", 3, 2, -1, 0, nil, nil},
		{"to below 0", 3, 2, 0, -1, nil, nil},
		{"from no node to itself", 3, 2, 6, 6, nil, nil},
		{"too many columns", 6, 1, 0, 1, nil, nil},
		{"too many rows", 1, 6, 0, 1, nil, nil},
		{"no columns", 0, 3, 0, 0, nil, nil},
		{"columns and rows below 0", -2, -2, 0, 0, nil, nil},
	}
	for _, c := range cases {
		if got := impl.RouteXY(c.w, c.h, c.a, c.b); !slices.Equal(got, c.xy) {
			t.Errorf("%s: RouteXY(%d, %d, %d, %d) = %v, want %v", c.name, c.w, c.h, c.a, c.b, got, c.xy)
		}
		if got := impl.RouteYX(c.w, c.h, c.a, c.b); !slices.Equal(got, c.yx) {
			t.Errorf("%s: RouteYX(%d, %d, %d, %d) = %v, want %v", c.name, c.w, c.h, c.a, c.b, got, c.yx)
		}
	}
}

// TestAllRoutes looks at all routes of all fabrics.
func TestAllRoutes(t *testing.T) {
	forFabrics(func(w, h int) {
		for a := range w * h {
			for b := range w * h {
				xy, yx := routeByHand(w, h, a, b), reversed(routeByHand(w, h, b, a))
				if got := impl.RouteXY(w, h, a, b); !slices.Equal(got, xy) || !impl.WayValid(w, h, got) {
					t.Errorf("RouteXY(%d, %d, %d, %d) = %v, want %v", w, h, a, b, got, xy)
				}
				if got := impl.RouteYX(w, h, a, b); !slices.Equal(got, yx) || !impl.WayValid(w, h, got) {
					t.Errorf("RouteYX(%d, %d, %d, %d) = %v, want %v", w, h, a, b, got, yx)
				}
			}
			for _, b := range append([]int{w * h, w*h + 1, 25, 30}, strangeNumbers...) {
				for _, way := range [][]int{impl.RouteXY(w, h, a, b), impl.RouteXY(w, h, b, a), impl.RouteYX(w, h, a, b), impl.RouteYX(w, h, b, a)} {
					if len(way) != 0 {
						t.Errorf("a route between %d and %d in a fabric of %d and %d is %v", a, b, w, h, way)
					}
				}
			}
		}
	})
}

func TestWayValid(t *testing.T) {
	cases := []struct {
		name string
		w, h int
		way  []int
		want bool
	}{
		{"no nodes", 3, 3, nil, false},
		{"one node", 3, 3, []int{8}, true},
		{"the only node", 1, 1, []int{0}, true},
		{"one that is none", 3, 3, []int{9}, false},
		{"one below 0", 3, 3, []int{-1}, false},
		{"neighbours", 3, 3, []int{0, 1, 4, 3, 0}, true},
		{"there and back", 3, 3, []int{0, 1, 0, 1}, true},
		{"one node twice", 3, 3, []int{0, 1, 1}, false},
		{"from row to row", 3, 3, []int{1, 2, 3}, false},
		{"across", 3, 3, []int{0, 4}, false},
		{"out of the fabric", 3, 3, []int{7, 8, 9}, false},
		{"up out of the fabric", 3, 3, []int{4, 1, -2}, false},
		{"as long as may be", 2, 1, slices.Repeat([]int{0, 1}, 15), true},
		{"one node too long", 2, 1, append(slices.Repeat([]int{0, 1}, 15), 0), false},
		{"too many columns", 6, 3, []int{0, 1}, false},
		{"too many rows", 3, 6, []int{0, 1}, false},
		{"no columns", 0, 3, []int{0}, false},
		{"no rows", 3, 0, []int{0}, false},
	}
	for _, c := range cases {
		if got := impl.WayValid(c.w, c.h, c.way); got != c.want {
			t.Errorf("%s: WayValid(%d, %d, %v) = %v, want %v", c.name, c.w, c.h, c.way, got, c.want)
		}
	}
}

// TestAllSmallLists looks at all lists of few numbers, most of which are no ways.
func TestAllSmallLists(t *testing.T) {
	for _, size := range [][]int{{1, 1}, {2, 1}, {1, 2}, {2, 2}, {3, 2}, {2, 3}} {
		w, h := size[0], size[1]
		for _, way := range listsOf(upTo(-1, w*h+1), 4) {
			if got, want := impl.WayValid(w, h, way), isWayByHand(w, h, way); got != want {
				t.Fatalf("WayValid(%d, %d, %v) = %v, want %v", w, h, way, got, want)
			}
		}
	}
}

// TestLongWays looks at ways up to the greatest length, with one wrong node and longer.
func TestLongWays(t *testing.T) {
	forFabrics(func(w, h int) {
		for many := 1; many <= 34 && w*h > 1; many++ {
			way := mixedWay(w, h, many, many+w)
			if got := impl.WayValid(w, h, way); got != (many <= 30) {
				t.Errorf("WayValid(%d, %d, %v) = %v", w, h, way, got)
			}
			for place := range way {
				for _, node := range []int{-1, w * h, way[place] + w*h, (way[place] + 1) % (w * h)} {
					wrong := slices.Clone(way)
					wrong[place] = node
					if got, want := impl.WayValid(w, h, wrong), isWayByHand(w, h, wrong); got != want {
						t.Errorf("WayValid(%d, %d, %v) = %v, want %v", w, h, wrong, got, want)
					}
				}
			}
		}
	})
}

func TestWaits(t *testing.T) {
	square := [][]int{{0, 1, 3}, {1, 3, 2}, {3, 2, 0}, {2, 0, 1}}
	cases := []struct {
		name  string
		w, h  int
		ways  [][]int
		pairs [][]int
		round bool
	}{
		{"no ways", 2, 2, nil, nil, false},
		{"a way of one node", 2, 2, [][]int{{3}}, nil, false},
		{"a way of one wire", 2, 2, [][]int{{3, 2}}, nil, false},
		{"there and back", 2, 2, [][]int{{0, 1, 0}}, [][]int{{0, 5}}, false},
		{"a wire twice", 2, 2, [][]int{{0, 1, 0, 1}}, [][]int{{0, 5}, {5, 0}}, true},
		{"round the square, not on", 2, 2, [][]int{{0, 1, 3, 2, 0}}, [][]int{{0, 6}, {6, 13}, {13, 11}}, false},
		{"round the square, and on", 2, 2, [][]int{{0, 1, 3, 2, 0, 1}}, [][]int{{0, 6}, {6, 13}, {11, 0}, {13, 11}}, true},
		{"the square", 2, 2, square, [][]int{{0, 6}, {6, 13}, {11, 0}, {13, 11}}, true},
		{"three of the square", 2, 2, square[:3], [][]int{{0, 6}, {6, 13}, {13, 11}}, false},
		{"one way three times", 3, 1, [][]int{{0, 1, 2}, {0, 1, 2}, {0, 1, 2}}, [][]int{{0, 4}}, false},
		{"there and back, from both ends", 2, 1, [][]int{{0, 1, 0}, {1, 0, 1}}, [][]int{{0, 5}, {5, 0}}, true},
		{"two behind one wire", 3, 2, [][]int{{0, 1, 4}, {0, 1, 2}}, [][]int{{0, 4}, {0, 6}}, false},
		{"two ahead of one wire", 3, 2, [][]int{{4, 1, 2}, {0, 1, 2}}, [][]int{{0, 4}, {19, 4}}, false},
		{"two ways to one wire", 2, 2, [][]int{{0, 1, 3}, {0, 2, 3}}, [][]int{{0, 6}, {2, 8}}, false},
	}
	for _, c := range cases {
		if got := impl.WaitsOf(c.w, c.h, c.ways); !sameLists(got, c.pairs) {
			t.Errorf("%s: WaitsOf(%d, %d, %v) = %v, want %v", c.name, c.w, c.h, c.ways, got, c.pairs)
		}
		if got := impl.HasRound(c.w, c.h, c.ways); got != c.round {
			t.Errorf("%s: HasRound(%d, %d, %v) = %v, want %v", c.name, c.w, c.h, c.ways, got, c.round)
		}
	}
}

func TestRunWorms(t *testing.T) {
	square := [][]int{{0, 1, 3}, {1, 3, 2}, {3, 2, 0}, {2, 0, 1}}
	yes, no := true, false
	cases := []struct {
		name  string
		w, h  int
		ways  [][]int
		done  []bool
		steps int
		stuck bool
	}{
		{"no worms", 2, 2, nil, nil, 0, false},
		{"a way of one node", 2, 2, [][]int{{3}}, []bool{yes}, 1, false},
		{"three ways of one node", 2, 2, [][]int{{3}, {3}, {0}}, []bool{yes, yes, yes}, 1, false},
		{"a way of one wire", 2, 2, [][]int{{3, 2}}, []bool{yes}, 2, false},
		{"a way of two wires", 2, 2, [][]int{{3, 2, 0}}, []bool{yes}, 3, false},
		{"there and back", 2, 1, [][]int{{0, 1, 0}}, []bool{yes}, 3, false},
		{"a wire twice, the last one", 2, 1, [][]int{{0, 1, 0, 1}}, []bool{yes}, 4, false},
		{"a wire twice, and on", 3, 1, [][]int{{0, 1, 0, 1, 2}}, []bool{yes}, 5, false},
		{"the square", 2, 2, square, []bool{no, no, no, no}, 2, true},
		{"three of the square", 2, 2, square[:3], []bool{yes, yes, yes}, 5, false},
		{"the square, and one of one node", 2, 2, append([][]int{{2}}, square...), []bool{yes, no, no, no, no}, 2, true},
		{"the square, and one that arrives later", 2, 2, append([][]int{{1, 0, 2}}, square...), []bool{yes, no, no, no, no}, 4, true},
		{"the square, and one that waits for it", 2, 2, append(square, []int{1, 0, 1}), []bool{no, no, no, no, no}, 2, true},
		{"both ways, one against the other", 2, 1, [][]int{{0, 1, 0}, {1, 0, 1}}, []bool{no, no}, 2, true},
		{"a wire twice, one behind the other", 2, 1, [][]int{{0, 1, 0, 1}, {0, 1, 0, 1}}, []bool{no, no}, 3, true},
		{"one that waits for a later one that arrives", 3, 1, [][]int{{0, 1, 2}, {1, 2}}, []bool{yes, yes}, 4, false},
		{"one that waits for an earlier one that arrives", 3, 1, [][]int{{1, 2}, {0, 1, 2}}, []bool{yes, yes}, 3, false},
		{"two of one wire", 2, 1, [][]int{{0, 1}, {0, 1}}, []bool{yes, yes}, 3, false},
		{"two of one way", 3, 1, [][]int{{0, 1, 2}, {0, 1, 2}}, []bool{yes, yes}, 4, false},
		{"two that meet, the first one ahead", 3, 2, [][]int{{0, 1, 2}, {4, 1, 2}}, []bool{yes, yes}, 4, false},
		{"a wire each way", 2, 1, [][]int{{0, 1}, {1, 0}}, []bool{yes, yes}, 2, false},
		{"twelve of one long way", 5, 1, slices.Repeat([][]int{{0, 1, 2, 3, 4}}, 12), slices.Repeat([]bool{yes}, 12), 16, false},
		{"the longest way", 2, 1, [][]int{slices.Repeat([]int{0, 1}, 15)}, []bool{yes}, 30, false},
	}
	for _, c := range cases {
		want := impl.WormRun{Done: c.done, Steps: c.steps, Stuck: c.stuck}
		if got, ok := impl.RunWorms(c.w, c.h, c.ways); !ok || !sameWorms(got, want) {
			t.Errorf("%s: RunWorms(%d, %d, %v) = %v, %v, want %v", c.name, c.w, c.h, c.ways, got, ok, want)
		}
	}
}

// TestAllFewWays looks at all lists of few short ways of small fabrics.
func TestAllFewWays(t *testing.T) {
	for _, small := range []struct{ w, h, nodes, ways int }{
		{1, 1, 1, 5}, {2, 1, 5, 3}, {1, 2, 2, 5}, {3, 1, 4, 2}, {1, 3, 3, 3}, {2, 2, 5, 1}, {2, 2, 3, 3}, {3, 2, 3, 2},
	} {
		some := waysUpTo(small.w, small.h, small.nodes)
		for _, places := range listsOf(upTo(0, len(some)), small.ways) {
			var ways [][]int
			for _, place := range places {
				ways = append(ways, some[place])
			}
			checkWays(t, small.w, small.h, ways)
		}
	}
}

// TestMixedWays looks at mixed ways in all fabrics, up to the limits.
func TestMixedWays(t *testing.T) {
	forFabrics(func(w, h int) {
		for many := range 13 {
			for _, most := range []int{2, 3, 5, 9, 30} {
				checkWays(t, w, h, mixedWays(w, h, many, most, many*31+most+w))
			}
			checkWays(t, w, h, mixedRoutes(impl.RouteXY, w, h, many, many+w))
			checkWays(t, w, h, slices.Concat(mixedRoutes(impl.RouteXY, w, h, many/2, many), mixedRoutes(impl.RouteYX, w, h, many-many/2, many+h)))
		}
	})
}

// TestSquares looks whether four worms round each square of nodes, either way round,
// are stuck, and three of them are not.
func TestSquares(t *testing.T) {
	forFabrics(func(w, h int) {
		for node := range w * h {
			if node%w == w-1 || node/w == h-1 {
				continue
			}
			round := []int{node, node + 1, node + w + 1, node + w}
			for range 2 {
				var ways [][]int
				for i := range 4 {
					ways = append(ways, []int{round[i], round[(i+1)%4], round[(i+2)%4]})
				}
				if run := checkWays(t, w, h, ways); !run.Stuck || run.Steps != 2 || countOf(run.Done) != 0 {
					t.Errorf("RunWorms(%d, %d, %v) = %v", w, h, ways, run)
				}
				if run := checkWays(t, w, h, ways[1:]); run.Stuck {
					t.Errorf("RunWorms(%d, %d, %v) = %v", w, h, ways[1:], run)
				}
				slices.Reverse(round)
			}
		}
	})
}

func TestWaysInvalid(t *testing.T) {
	for _, n := range notWides {
		for _, m := range append([]int{1, 2, 5}, notWides...) {
			for _, ways := range [][][]int{nil, {}, {{0}}, {{0, 1}}, {{0, 1, 0}, {0, 1}}, {nil}} {
				checkNoWays(t, n, m, ways)
				checkNoWays(t, m, n, ways)
			}
			for _, way := range [][]int{nil, {0}, {0, 1}, {n}} {
				if impl.WayValid(n, m, way) || impl.WayValid(m, n, way) {
					t.Errorf("WayValid(%d, %d, %v) = true, or the other way round", n, m, way)
				}
			}
			if impl.WireOf(n, m, 0, 1) != -1 || impl.WireOf(m, n, 0, 1) != -1 {
				t.Errorf("there is a wire in a fabric of %d and %d", n, m)
			}
			for _, b := range []int{0, 1} {
				routes := slices.Concat(impl.RouteXY(n, m, 0, b), impl.RouteXY(m, n, 0, b), impl.RouteYX(n, m, 0, b), impl.RouteYX(m, n, 0, b))
				if len(routes) != 0 {
					t.Errorf("there is a way in a fabric of %d and %d: %v", n, m, routes)
				}
			}
		}
	}
}

// TestOneOfManyIsNoWay looks at ways of which one is none, and at too many.
func TestOneOfManyIsNoWay(t *testing.T) {
	bad := [][]int{nil, {}, {0, 0}, {0, 4}, {2, 3}, {9}, {-1}, {0, 1, 2, 3}, {7, 8, 9}, append(slices.Repeat([]int{0, 1}, 15), 0), slices.Repeat([]int{1, 4}, 40)}
	for _, n := range strangeNumbers {
		bad = append(bad, []int{n}, []int{n, 0}, []int{0, n}, []int{0, 1, n})
	}
	for _, way := range bad {
		for many := 1; many <= 12; many++ {
			for place := range many {
				ways := mixedWays(3, 3, many, 9, many)
				ways[place] = way
				checkNoWays(t, 3, 3, ways)
			}
		}
	}
	for _, many := range []int{13, 14, 24, 300} {
		checkNoWays(t, 3, 3, mixedWays(3, 3, many, 9, many))
		checkNoWays(t, 3, 3, slices.Repeat([][]int{{4}}, many))
		checkNoWays(t, 2, 1, slices.Repeat([][]int{{0, 1, 0, 1}}, many))
	}
}

// TestRoutesDoNotGoRound looks whether waiting goes round when all nodes send to all
// others, by one kind of routes: it does not, but does by both of them in a fabric
// that has squares.
func TestRoutesDoNotGoRound(t *testing.T) {
	forFabrics(func(w, h int) {
		var xy, yx [][]int
		for code := range w * h * w * h {
			xy = append(xy, impl.RouteXY(w, h, code%(w*h), code/(w*h)))
			yx = append(yx, impl.RouteYX(w, h, code%(w*h), code/(w*h)))
		}
		for _, routes := range [][][]int{xy, yx} {
			var pairs [][]int
			for ways := range slices.Chunk(routes, 12) {
				if impl.HasRound(w, h, ways) {
					t.Errorf("HasRound(%d, %d, %v) = true", w, h, ways)
				}
				pairs = append(pairs, impl.WaitsOf(w, h, ways)...)
			}
			if goRound(pairs) {
				t.Errorf("in a fabric of %d and %d, waiting goes round along %v", w, h, pairs)
			}
		}
		both := waitsByPairs(w, h, slices.Concat(xy, yx))
		if got, want := goRound(both), w > 1 && h > 1; got != want {
			t.Errorf("in a fabric of %d and %d, waiting goes round by both kinds of routes: %v", w, h, got)
		}
	})
}

// TestNobodyIsStuck is promise 16: where waiting cannot go round, nobody is stuck.
// Ways are taken one by one, as long as waiting does not go round, so that there are
// as many as may be.
func TestNobodyIsStuck(t *testing.T) {
	waited := 0
	forFabrics(func(w, h int) {
		for seed := range 40 {
			var ways [][]int
			for i := range 60 {
				way := mixedWay(w, h, 2+(seed+i)%11, seed*60+i)
				if len(ways) == 12 || impl.HasRound(w, h, append(slices.Clone(ways), way)) {
					continue
				}
				ways = append(ways, way)
				run, ok := impl.RunWorms(w, h, ways)
				if !ok || run.Stuck || slices.Contains(run.Done, false) || len(run.Done) != len(ways) {
					t.Fatalf("RunWorms(%d, %d, %v) = %v, %v", w, h, ways, run, ok)
				}
				if run.Steps > len(slices.MaxFunc(ways, byLength)) {
					waited++
				}
			}
		}
	})
	if waited < 1000 {
		t.Errorf("only %d times a worm had to wait", waited)
	}
}

// byLength compares lists by how long they are.
func byLength(a, b []int) int { return cmp.Compare(len(a), len(b)) }

// TestRoutedWormsArrive looks whether all worms arrive that go by one kind of routes,
// in all fabrics.
func TestRoutedWormsArrive(t *testing.T) {
	forFabrics(func(w, h int) {
		for seed := range 60 {
			for _, route := range []func(w, h, a, b int) []int{impl.RouteXY, impl.RouteYX} {
				ways := mixedRoutes(route, w, h, 12, seed+w*9+h)
				run, ok := impl.RunWorms(w, h, ways)
				if !ok || run.Stuck || countOf(run.Done) != 12 || impl.HasRound(w, h, ways) {
					t.Fatalf("RunWorms(%d, %d, %v) = %v, %v", w, h, ways, run, ok)
				}
			}
		}
	})
}

func TestFabricSharesNoMemory(t *testing.T) {
	// The ways are one behind the other, and numbers behind them.
	long, short := mixedWay(4, 4, 30, 3), mixedWay(4, 4, 9, 4)
	whole := slices.Concat(long, short, mixedNumbers(40, 16, 5))
	before := slices.Clone(whole)
	ways := [][]int{whole[:30], whole[30:39], whole[:30]}
	first, second := impl.WaitsOf(4, 4, ways), impl.WaitsOf(4, 4, ways)
	if len(first) < 2 || !sameLists(first, second) {
		t.Errorf("WaitsOf returns %v, and then %v", first, second)
	}
	run, ok := impl.RunWorms(4, 4, ways)
	if again, _ := impl.RunWorms(4, 4, ways); !ok || !sameWorms(run, again) {
		t.Errorf("RunWorms returns %v, %v, and then %v", run, ok, again)
	}
	impl.WayValid(4, 4, ways[0])
	impl.HasRound(4, 4, ways)
	checkApart(t, "WaitsOf", whole, before, append(first, second...)...)
	checkApart(t, "a route", whole, before, impl.RouteXY(4, 4, 0, 15), impl.RouteXY(4, 4, 0, 15), impl.RouteYX(4, 4, 0, 15), impl.RouteXY(4, 4, 3, 3), impl.RouteXY(4, 4, 3, 3))
	if !slices.Equal(ways[0], long) || !slices.Equal(ways[1], short) || !slices.Equal(ways[2], long) || len(ways) != 3 {
		t.Errorf("ways change: %v", ways)
	}
}
