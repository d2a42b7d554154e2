package tests

import (
	"math"
	"slices"
	"testing"

	"loop.example/wholenet/impl"
)

// far is what it costs, in the reckoning of the test, to come where no cable leads.
const far = 1 << 30

// notBridgeCounts are numbers of bridges that there cannot be.
var notBridgeCounts = append([]int{0, 9, 10, 16, 20}, strangeNumbers...)

// notBridges returns numbers of which none is one of so many bridges.
func notBridges(n int) []int { return append([]int{n, n + 1, 8, 9}, strangeNumbers...) }

// mixedCables returns so many cables, with costs from 1 on up to a greatest one,
// that have no short period.
func mixedCables(n, many, most, seed int) []impl.Cable {
	a, apart := mixedNumbers(many, n, seed), mixedNumbers(many, n-1, seed+1000)
	costs := mixedNumbers(many, most, seed+2000)
	list := make([]impl.Cable, many)
	for i := range list {
		list[i] = impl.Cable{A: a[i], B: (a[i] + 1 + apart[i]) % n, Cost: costs[i] + 1}
	}
	return list
}

// lineOf returns the cables of bridges one behind the other, 0 being the last one.
func lineOf(n, cost int) []impl.Cable {
	var list []impl.Cable
	for b := n - 1; b > 0; b-- {
		list = append(list, impl.Cable{A: b, B: b - 1, Cost: cost})
	}
	return list
}

// goodCables returns cables of so many bridges, up to the limits.
func goodCables(n int) [][]impl.Cable {
	good := [][]impl.Cable{nil, {}, lineOf(n, 1), lineOf(n, 99)}
	if n == 1 {
		return good
	}
	for seed := range 4 {
		for _, many := range []int{1, 2, n, 19, 20} {
			for _, most := range []int{1, 2, 99} {
				good = append(good, mixedCables(n, many, most, seed+many))
			}
		}
	}
	return good
}

// badCables returns cables that do not join so many bridges, for one of them or
// for how many they are.
func badCables(n int) [][]impl.Cable {
	kinds := []impl.Cable{{A: 0, B: 0, Cost: 1}, {A: n - 1, B: n - 1, Cost: 99}, {}}
	for _, x := range notBridges(n) {
		kinds = append(kinds, impl.Cable{A: x, B: 0, Cost: 1}, impl.Cable{A: 0, B: x, Cost: 1}, impl.Cable{A: x, B: x, Cost: 1})
	}
	if n == 1 {
		var bad [][]impl.Cable
		for _, c := range kinds {
			bad = append(bad, []impl.Cable{c})
		}
		return bad
	}
	for _, x := range append([]int{0, 100, 101}, strangeNumbers...) {
		kinds = append(kinds, impl.Cable{A: 0, B: 1, Cost: x}, impl.Cable{A: n - 1, B: 0, Cost: x})
	}
	bad := [][]impl.Cable{mixedCables(n, 21, 99, 1), mixedCables(n, 22, 1, 2), mixedCables(n, 200, 5, 3)}
	for _, c := range kinds {
		bad = append(bad, []impl.Cable{c})
		for _, at := range []int{0, 9, 19} {
			list := mixedCables(n, 20, 9, at)
			list[at] = c
			bad = append(bad, list)
		}
	}
	return bad
}

// costBetween returns the least costs between bridges along at most so many
// cables, as the test reckons them: walk by walk, a cable longer each time.
func costBetween(n int, list []impl.Cable, many int) [][]int {
	costs := make([][]int, n)
	for a := range costs {
		costs[a] = slices.Repeat([]int{far}, n)
		costs[a][a] = 0
	}
	for range many {
		next := make([][]int, n)
		for a := range costs {
			next[a] = slices.Clone(costs[a])
			for _, c := range list {
				next[a][c.B] = min(next[a][c.B], costs[a][c.A]+c.Cost)
				next[a][c.A] = min(next[a][c.A], costs[a][c.B]+c.Cost)
			}
		}
		costs = next
	}
	return costs
}

// smallestNear returns the smallest bridge to which one comes, by the costs from
// one bridge to the others.
func smallestNear(costs []int) int {
	return slices.IndexFunc(costs, func(cost int) bool { return cost < far })
}

// upOf returns the neighbour and the cable by which one comes from a bridge to
// another one at a cost, when cost has what it costs each bridge behind the cable;
// -1 and -1 if there are none.
func upOf(list []impl.Cable, b, cost int, behind []int) (int, int) {
	neighbour, cable := -1, -1
	for i, c := range list {
		if c.A != b && c.B != b {
			continue
		}
		other := c.A + c.B - b
		if behind[other]+c.Cost == cost && (neighbour < 0 || other < neighbour) {
			neighbour, cable = other, i
		}
	}
	return neighbour, cable
}

// claimsNear returns what bridges claim after rounds, as the test reckons it from
// where one comes along at most so many cables.
func claimsNear(n int, list []impl.Cable, rounds int) [][]int {
	now, before := costBetween(n, list, rounds), costBetween(n, list, rounds-1)
	claims := make([][]int, n)
	for b := range claims {
		root := smallestNear(now[b])
		neighbour, cable := -1, -1
		if root != b {
			neighbour, cable = upOf(list, b, now[b][root], before[root])
		}
		claims[b] = []int{root, now[b][root], neighbour, cable}
	}
	return claims
}

// nextByOrder returns what bridges claim next, as the test reckons it: the first
// of all that they could claim, put in order.
func nextByOrder(n int, list []impl.Cable, claims [][]int) [][]int {
	next := make([][]int, n)
	for b := range next {
		could := [][]int{{b, 0, -1, -1}}
		for i, c := range list {
			if c.A == b {
				could = append(could, []int{claims[c.B][0], claims[c.B][1] + c.Cost, c.B, i})
			}
			if c.B == b {
				could = append(could, []int{claims[c.A][0], claims[c.A][1] + c.Cost, c.A, i})
			}
		}
		slices.SortFunc(could, slices.Compare)
		next[b] = could[0]
	}
	return next
}

// checkTree holds all that the chapter tells of cables against the reckonings.
func checkTree(t *testing.T, n int, list []impl.Cable) {
	t.Helper()
	costs := costBetween(n, list, n-1)
	wantCosts, ups, tree := make([]int, n), make([]int, n), []int(nil)
	for b := range n {
		root := smallestNear(costs[b])
		if got := impl.RootOf(n, list, b); got != root {
			t.Errorf("RootOf(%d, %v, %d) = %d, want %d", n, list, b, got, root)
		}
		wantCosts[b] = costs[b][root]
		ups[b] = -1
		if root != b {
			neighbour, cable := upOf(list, b, wantCosts[b], costs[root])
			ups[b], tree = neighbour, append(tree, cable)
		}
	}
	slices.Sort(tree)
	if got := impl.CostsOf(n, list); !slices.Equal(got, wantCosts) {
		t.Errorf("CostsOf(%d, %v) = %v, want %v", n, list, got, wantCosts)
	}
	if got := impl.TreeOf(n, list); !slices.Equal(got, tree) {
		t.Errorf("TreeOf(%d, %v) = %v, want %v", n, list, got, tree)
	}
	for b := range n {
		var way []int
		for at := b; at >= 0; at = ups[at] {
			way = append(way, at)
		}
		if got := impl.WayUp(n, list, b); !slices.Equal(got, way) {
			t.Errorf("WayUp(%d, %v, %d) = %v, want %v", n, list, b, got, way)
		}
	}
}

// checkRounds holds what bridges claim after rounds against where one comes along
// so many cables.
func checkRounds(t *testing.T, n int, list []impl.Cable, rounds ...int) {
	t.Helper()
	for _, r := range rounds {
		want := claimsNear(n, list, r)
		got := impl.ClaimsAfter(n, list, r)
		if !sameLists(got, want) {
			t.Errorf("ClaimsAfter(%d, %v, %d) = %v, want %v", n, list, r, got, want)
			return
		}
		next := nextByOrder(n, list, got)
		if heard := impl.NextClaims(n, list, got); !sameLists(heard, next) {
			t.Errorf("NextClaims(%d, %v, %v) = %v, want %v", n, list, got, heard, next)
		}
	}
}

func TestTreeConstants(t *testing.T) {
	if got, want := []int{impl.MaxBridges, impl.MaxCables, impl.MaxCost}, []int{8, 20, 99}; !slices.Equal(got, want) {
		t.Errorf("the constants are %v, want %v", got, want)
	}
}

func TestCablesValid(t *testing.T) {
	for n := 1; n <= 8; n++ {
		for _, list := range goodCables(n) {
			if !impl.CablesValid(n, list) {
				t.Errorf("CablesValid(%d, %v) = false", n, list)
			}
		}
		for _, list := range badCables(n) {
			if impl.CablesValid(n, list) {
				t.Errorf("CablesValid(%d, %v) = true", n, list)
			}
		}
		for a := -1; a <= 9; a++ {
			for b := -1; b <= 9; b++ {
				for _, cost := range []int{-1, 0, 1, 2, 98, 99, 100} {
					c := impl.Cable{A: a, B: b, Cost: cost}
					want := a >= 0 && a < n && b >= 0 && b < n && a != b && cost >= 1 && cost <= 99
					if got := impl.CablesValid(n, []impl.Cable{c}); got != want {
						t.Errorf("CablesValid(%d, %v) = %v", n, c, got)
					}
				}
			}
		}
	}
	for _, n := range notBridgeCounts {
		for _, list := range [][]impl.Cable{nil, {}, {{A: 0, B: 1, Cost: 1}}, lineOf(8, 1)} {
			if impl.CablesValid(n, list) {
				t.Errorf("CablesValid(%d, %v) = true", n, list)
			}
		}
	}
}

func TestTreeCases(t *testing.T) {
	cases := []struct {
		name  string
		n     int
		list  []impl.Cable
		costs []int
		tree  []int
		last  []int // the way up from the last bridge
	}{
		{"one bridge", 1, nil, []int{0}, nil, []int{0}},
		{"no cables", 3, nil, []int{0, 0, 0}, nil, []int{2}},
		{"the document's example", 3, []impl.Cable{{A: 0, B: 1, Cost: 1}, {A: 1, B: 2, Cost: 1}, {A: 0, B: 2, Cost: 1}}, []int{0, 1, 1}, []int{0, 2}, []int{2, 0}},
		{"two cables alike", 2, []impl.Cable{{A: 0, B: 1, Cost: 3}, {A: 0, B: 1, Cost: 3}}, []int{0, 3}, []int{0}, []int{1, 0}},
		{"two cables alike, turned", 2, []impl.Cable{{A: 1, B: 0, Cost: 3}, {A: 0, B: 1, Cost: 3}}, []int{0, 3}, []int{0}, []int{1, 0}},
		{"the second of two costs less", 2, []impl.Cable{{A: 0, B: 1, Cost: 3}, {A: 1, B: 0, Cost: 2}}, []int{0, 2}, []int{1}, []int{1, 0}},
		{"the first of two costs less", 2, []impl.Cable{{A: 0, B: 1, Cost: 2}, {A: 1, B: 0, Cost: 3}}, []int{0, 2}, []int{0}, []int{1, 0}},
		{"three cables, two of them alike", 2, []impl.Cable{{A: 0, B: 1, Cost: 4}, {A: 0, B: 1, Cost: 2}, {A: 0, B: 1, Cost: 2}}, []int{0, 2}, []int{1}, []int{1, 0}},
		// The neighbour counts ahead of the index.
		{"the smaller neighbour at the greater index", 4, []impl.Cable{
			{A: 3, B: 2, Cost: 1}, {A: 0, B: 2, Cost: 1}, {A: 3, B: 1, Cost: 1}, {A: 0, B: 1, Cost: 1},
		}, []int{0, 1, 1, 2}, []int{1, 2, 3}, []int{3, 1, 0}},
		{"the root itself costs as much as a way round", 3, []impl.Cable{
			{A: 1, B: 2, Cost: 1}, {A: 0, B: 1, Cost: 1}, {A: 0, B: 2, Cost: 2},
		}, []int{0, 1, 2}, []int{1, 2}, []int{2, 0}},
		{"a way round costs less", 3, []impl.Cable{
			{A: 0, B: 2, Cost: 9}, {A: 0, B: 1, Cost: 4}, {A: 1, B: 2, Cost: 4},
		}, []int{0, 4, 8}, []int{1, 2}, []int{2, 1, 0}},
		{"a way round along greater bridges", 4, []impl.Cable{
			{A: 0, B: 1, Cost: 99}, {A: 0, B: 3, Cost: 1}, {A: 3, B: 2, Cost: 1}, {A: 2, B: 1, Cost: 1},
		}, []int{0, 3, 2, 1}, []int{1, 2, 3}, []int{3, 0}},
		{"a bridge that is joined to none", 4, []impl.Cable{{A: 0, B: 3, Cost: 5}, {A: 3, B: 1, Cost: 6}}, []int{0, 11, 0, 5}, []int{0, 1}, []int{3, 0}},
		{"the smallest bridge is joined to none", 3, []impl.Cable{{A: 2, B: 1, Cost: 7}, {A: 2, B: 1, Cost: 7}}, []int{0, 0, 7}, []int{0}, []int{2, 1}},
		{"two trees", 6, []impl.Cable{
			{A: 5, B: 2, Cost: 1}, {A: 4, B: 5, Cost: 1}, {A: 2, B: 4, Cost: 3}, {A: 3, B: 1, Cost: 2}, {A: 0, B: 3, Cost: 2}, {A: 1, B: 0, Cost: 4},
		}, []int{0, 4, 0, 2, 2, 1}, []int{0, 1, 4, 5}, []int{5, 2}},
		{"a long line", 8, lineOf(8, 99), []int{0, 99, 198, 297, 396, 495, 594, 693}, []int{0, 1, 2, 3, 4, 5, 6}, []int{7, 6, 5, 4, 3, 2, 1, 0}},
	}
	for _, c := range cases {
		if got := impl.CostsOf(c.n, c.list); !slices.Equal(got, c.costs) {
			t.Errorf("%s: CostsOf = %v, want %v", c.name, got, c.costs)
		}
		if got := impl.TreeOf(c.n, c.list); !slices.Equal(got, c.tree) {
			t.Errorf("%s: TreeOf = %v, want %v", c.name, got, c.tree)
		}
		if got := impl.WayUp(c.n, c.list, c.n-1); !slices.Equal(got, c.last) {
			t.Errorf("%s: WayUp = %v, want %v", c.name, got, c.last)
		}
		checkTree(t, c.n, c.list)
		checkRounds(t, c.n, c.list, 0, 1, 2, 3, 7, 8, 99, 100)
	}
}

// checkAllCables gives bridges all lists of at most so many cables of some kinds.
func checkAllCables(t *testing.T, n int, kinds, list []impl.Cable, many int) {
	t.Helper()
	checkTree(t, n, list)
	checkRounds(t, n, list, 1, 2, n)
	if many == 0 || t.Failed() {
		return
	}
	for _, c := range kinds {
		checkAllCables(t, n, kinds, append(list[:len(list):len(list)], c), many-1)
	}
}

func TestTreeOfAllCables(t *testing.T) {
	for _, c := range []struct{ n, most, many int }{{2, 3, 4}, {3, 2, 3}, {4, 2, 4}} {
		var kinds []impl.Cable
		for a := range c.n {
			for b := range c.n {
				// Of four bridges there are too many kinds to turn each cable too.
				if a == b || c.n == 4 && a < b {
					continue
				}
				for cost := 1; cost <= c.most; cost++ {
					kinds = append(kinds, impl.Cable{A: a, B: b, Cost: cost})
				}
			}
		}
		checkAllCables(t, c.n, kinds, nil, c.many)
	}
}

func TestTreeOfMixedCables(t *testing.T) {
	for n := 2; n <= 8; n++ {
		for many := range 21 {
			for _, most := range []int{1, 2, 3, 9, 99} {
				for seed := range 3 {
					list := mixedCables(n, many, most, seed+many)
					checkTree(t, n, list)
					checkRounds(t, n, list, 0, 1, 3, 100)
				}
			}
		}
	}
}

// checkPromise looks whether the cables of the tree join the bridges that are
// joined, and each of them is needed for that: with a way round one would not be.
func checkPromise(t *testing.T, n int, list []impl.Cable) {
	t.Helper()
	tree := impl.TreeOf(n, list)
	var left []impl.Cable
	for i, k := range tree {
		if k < 0 || k >= len(list) || i > 0 && k <= tree[i-1] {
			t.Fatalf("TreeOf(%d, %v) = %v", n, list, tree)
		}
		left = append(left, list[k])
	}
	whole, joined := costBetween(n, list, n), costBetween(n, left, n)
	for a := range n {
		for b := range n {
			if (whole[a][b] < far) != (joined[a][b] < far) {
				t.Errorf("%d and %d are joined by %v, or else by the tree %v", a, b, list, tree)
			}
		}
	}
	for i, c := range left {
		others := slices.Delete(slices.Clone(left), i, i+1)
		if costBetween(n, others, n)[c.A][c.B] < far {
			t.Errorf("the tree %v of %v has a way round by the cable %d", tree, list, tree[i])
		}
	}
	for b := range n {
		way := impl.WayUp(n, list, b)
		root, cost := way[len(way)-1], impl.CostsOf(n, list)[b]
		if root != impl.RootOf(n, list, b) || joined[b][root] != cost || whole[b][root] != cost {
			t.Errorf("the way of %d in %v is %v, which is not its way in the tree %v", b, list, way, tree)
		}
	}
}

// TestTreeJoinsWithoutWayRound is promise 7.
func TestTreeJoinsWithoutWayRound(t *testing.T) {
	for n := 1; n <= 8; n++ {
		for _, list := range goodCables(n) {
			checkPromise(t, n, list)
		}
		if n == 1 {
			continue
		}
		for many := range 21 {
			for _, most := range []int{1, 3, 99} {
				checkPromise(t, n, mixedCables(n, many, most, many+n))
			}
		}
	}
}

// TestTreeIsClaimed holds the tree against what bridges claim when each of them
// has heard of all: then no round changes anything.
func TestTreeIsClaimed(t *testing.T) {
	for n := 1; n <= 8; n++ {
		for _, list := range goodCables(n) {
			claims := impl.ClaimsAfter(n, list, n-1)
			for _, rounds := range []int{n, 50, 100} {
				if got := impl.ClaimsAfter(n, list, rounds); !sameLists(got, claims) {
					t.Errorf("ClaimsAfter(%d, %v, %d) = %v, want %v", n, list, rounds, got, claims)
				}
			}
			costs, tree := impl.CostsOf(n, list), []int(nil)
			for b, c := range claims {
				way := append(impl.WayUp(n, list, b), -1)
				if c[0] != impl.RootOf(n, list, b) || c[1] != costs[b] || c[2] != way[1] {
					t.Errorf("of %d bridges and %v, %d claims %v, but its costs are %v and its way %v", n, list, b, c, costs, way)
				}
				if c[3] >= 0 {
					tree = append(tree, c[3])
				}
			}
			slices.Sort(tree)
			if got := impl.TreeOf(n, list); !slices.Equal(got, tree) {
				t.Errorf("TreeOf(%d, %v) = %v, and what is claimed is %v", n, list, got, tree)
			}
		}
	}
}

func TestFirstClaims(t *testing.T) {
	want := [][]int{{0, 0, -1, -1}, {1, 0, -1, -1}, {2, 0, -1, -1}, {3, 0, -1, -1}, {4, 0, -1, -1}, {5, 0, -1, -1}, {6, 0, -1, -1}, {7, 0, -1, -1}}
	for n := 1; n <= 8; n++ {
		if got := impl.FirstClaims(n); !sameLists(got, want[:n]) {
			t.Errorf("FirstClaims(%d) = %v", n, got)
		}
		if got := impl.ClaimsAfter(n, lineOf(n, 1), 0); !sameLists(got, want[:n]) {
			t.Errorf("ClaimsAfter(%d, .., 0) = %v", n, got)
		}
	}
	for _, n := range notBridgeCounts {
		if got := impl.FirstClaims(n); len(got) != 0 {
			t.Errorf("FirstClaims(%d) = %v", n, got)
		}
	}
}

func TestNextClaims(t *testing.T) {
	two := []impl.Cable{{A: 0, B: 1, Cost: 2}, {A: 1, B: 0, Cost: 1}}
	three := []impl.Cable{{A: 0, B: 1, Cost: 5}, {A: 2, B: 1, Cost: 5}}
	cases := []struct {
		name   string
		n      int
		list   []impl.Cable
		claims [][]int
		want   [][]int
	}{
		{"nothing is heard", 2, nil, [][]int{{-5, 1, 2, 3}, {0, 0, 0, 0}}, [][]int{{0, 0, -1, -1}, {1, 0, -1, -1}}},
		{"the cheaper cable", 2, two, [][]int{{0, 0, -1, -1}, {1, 0, -1, -1}}, [][]int{{0, 0, -1, -1}, {0, 1, 0, 1}}},
		// What a bridge claimed itself is forgotten.
		{"an own claim", 2, two, [][]int{{0, 7, 1, 1}, {-3, 4, 9, 9}}, [][]int{{-3, 5, 1, 1}, {0, 8, 0, 1}}},
		{"roots that are no bridges", 2, two, [][]int{{math.MinInt, 0, -1, -1}, {math.MaxInt, 0, -1, -1}}, [][]int{{0, 0, -1, -1}, {math.MinInt, 1, 0, 1}}},
		{"the root ahead of the cost", 3, three, [][]int{{-1, 10000, 0, 0}, {1, 0, -1, -1}, {0, 0, -1, -1}}, [][]int{{0, 0, -1, -1}, {-1, 10005, 0, 0}, {1, 5, 1, 1}}},
		{"the cost ahead of the neighbour", 3, three, [][]int{{0, 1, 0, 0}, {1, 0, -1, -1}, {0, 0, -1, -1}}, [][]int{{0, 0, -1, -1}, {0, 5, 2, 1}, {1, 5, 1, 1}}},
		{"the smaller neighbour", 3, []impl.Cable{{A: 2, B: 1, Cost: 5}, {A: 0, B: 1, Cost: 5}}, [][]int{{0, 1, 0, 0}, {5, 5, 5, 5}, {0, 1, 0, 0}}, [][]int{{0, 0, -1, -1}, {0, 6, 0, 1}, {2, 0, -1, -1}}},
		{"the smaller cable", 2, []impl.Cable{{A: 1, B: 0, Cost: 4}, {A: 0, B: 1, Cost: 4}}, [][]int{{-2, 3, 4, 5}, {-2, 3, 4, 5}}, [][]int{{-2, 7, 1, 0}, {-2, 7, 0, 0}}},
		// A cable costs something, so what is heard of one's own root is no better.
		{"a bridge hears of itself", 2, two, [][]int{{0, 0, -1, -1}, {0, 0, -1, -1}}, [][]int{{0, 0, -1, -1}, {0, 1, 0, 1}}},
		{"a claim with what it does not pass on", 2, two, [][]int{{0, 0, math.MinInt, math.MaxInt}, {1, 0, 99, -99}}, [][]int{{0, 0, -1, -1}, {0, 1, 0, 1}}},
		{"the greatest cost", 2, []impl.Cable{{A: 0, B: 1, Cost: 99}}, [][]int{{0, 10000, 1, 0}, {-1, 10000, 1, 0}}, [][]int{{-1, 10099, 1, 0}, {0, 10099, 0, 0}}},
	}
	for _, c := range cases {
		if got := impl.NextClaims(c.n, c.list, c.claims); !sameLists(got, c.want) {
			t.Errorf("%s: NextClaims(%d, %v, %v) = %v, want %v", c.name, c.n, c.list, c.claims, got, c.want)
		}
	}
}

// mixedClaims returns claims of so many bridges, most of them never made by one.
func mixedClaims(n, seed int) [][]int {
	roots, costs := mixedNumbers(n, 4, seed), mixedNumbers(n, 3, seed+1000)
	others := mixedNumbers(2*n, 9, seed+2000)
	claims := make([][]int, n)
	for b := range claims {
		cost := []int{0, 1, 10000}[costs[b]]
		claims[b] = []int{roots[b] - 1, cost, others[b] - 1, others[n+b] - 1}
	}
	return claims
}

func TestNextOfMixedClaims(t *testing.T) {
	for n := 1; n <= 8; n++ {
		for seed, list := range goodCables(n) {
			for more := range 5 {
				claims := mixedClaims(n, seed+more)
				want := nextByOrder(n, list, claims)
				if got := impl.NextClaims(n, list, claims); !sameLists(got, want) {
					t.Errorf("NextClaims(%d, %v, %v) = %v, want %v", n, list, claims, got, want)
				}
			}
		}
	}
}

func TestClaimsAfterIsItsRounds(t *testing.T) {
	for n := 1; n <= 8; n++ {
		for _, list := range goodCables(n) {
			claims := impl.FirstClaims(n)
			for rounds := range 12 {
				if got := impl.ClaimsAfter(n, list, rounds); !sameLists(got, claims) {
					t.Errorf("ClaimsAfter(%d, %v, %d) = %v, want %v", n, list, rounds, got, claims)
				}
				claims = impl.NextClaims(n, list, claims)
			}
			for rounds := range 101 {
				if got := impl.ClaimsAfter(n, list, rounds); len(got) != n {
					t.Errorf("ClaimsAfter(%d, %v, %d) = %v", n, list, rounds, got)
				}
			}
		}
	}
}

// TestClaimsOfALine holds that a bridge hears of what is a cable further in each round.
func TestClaimsOfALine(t *testing.T) {
	for rounds := range 9 {
		var want [][]int
		for b := range 8 {
			heard := min(rounds, b)
			c := []int{b - heard, 3 * heard, b - 1, 7 - b}
			if heard == 0 {
				c = []int{b, 0, -1, -1}
			}
			want = append(want, c)
		}
		if got := impl.ClaimsAfter(8, lineOf(8, 3), rounds); !sameLists(got, want) {
			t.Errorf("after %d rounds a line claims %v, want %v", rounds, got, want)
		}
	}
}

// checkNoCables looks whether a list is taken for the cables of bridges.
func checkNoCables(t *testing.T, n int, list []impl.Cable) {
	t.Helper()
	for _, b := range []int{0, 1, n - 1} {
		if got := impl.RootOf(n, list, b); got != -1 {
			t.Errorf("RootOf(%d, %v, %d) = %d", n, list, b, got)
		}
		if got := impl.WayUp(n, list, b); len(got) != 0 {
			t.Errorf("WayUp(%d, %v, %d) = %v", n, list, b, got)
		}
	}
	if got := impl.CostsOf(n, list); len(got) != 0 {
		t.Errorf("CostsOf(%d, %v) = %v", n, list, got)
	}
	if got := impl.TreeOf(n, list); len(got) != 0 {
		t.Errorf("TreeOf(%d, %v) = %v", n, list, got)
	}
	for _, many := range []int{0, 1, min(max(n, 0), 20)} {
		claims := slices.Repeat([][]int{{0, 0, -1, -1}}, many)
		if got := impl.NextClaims(n, list, claims); len(got) != 0 {
			t.Errorf("NextClaims(%d, %v, %v) = %v", n, list, claims, got)
		}
	}
	for _, rounds := range []int{0, 1, 100} {
		if got := impl.ClaimsAfter(n, list, rounds); len(got) != 0 {
			t.Errorf("ClaimsAfter(%d, %v, %d) = %v", n, list, rounds, got)
		}
	}
}

func TestNoCables(t *testing.T) {
	for n := 1; n <= 8; n++ {
		for _, list := range badCables(n) {
			checkNoCables(t, n, list)
		}
	}
	for _, n := range notBridgeCounts {
		for _, list := range [][]impl.Cable{nil, {}, {{A: 0, B: 1, Cost: 1}}, lineOf(8, 1), mixedCables(9, 20, 9, 1)} {
			checkNoCables(t, n, list)
		}
	}
}

func TestNoBridgeAmongCables(t *testing.T) {
	for n := 1; n <= 8; n++ {
		for _, list := range goodCables(n) {
			for _, b := range notBridges(n) {
				if got := impl.RootOf(n, list, b); got != -1 {
					t.Errorf("RootOf(%d, %v, %d) = %d", n, list, b, got)
				}
				if got := impl.WayUp(n, list, b); len(got) != 0 {
					t.Errorf("WayUp(%d, %v, %d) = %v", n, list, b, got)
				}
			}
		}
	}
}

func TestNoRounds(t *testing.T) {
	for n := 1; n <= 8; n++ {
		for _, list := range [][]impl.Cable{nil, lineOf(n, 9)} {
			for _, rounds := range append([]int{101, 102, 1000}, strangeNumbers...) {
				if got := impl.ClaimsAfter(n, list, rounds); len(got) != 0 {
					t.Errorf("ClaimsAfter(%d, %v, %d) = %v", n, list, rounds, got)
				}
			}
		}
	}
}

func TestNoClaims(t *testing.T) {
	check := func(n int, claims [][]int) {
		t.Helper()
		for _, list := range [][]impl.Cable{nil, lineOf(n, 9)} {
			if got := impl.NextClaims(n, list, claims); len(got) != 0 {
				t.Errorf("NextClaims(%d, %v, %v) = %v", n, list, claims, got)
			}
		}
	}
	notCosts := append([]int{10001, 10002, 1 << 20}, slices.DeleteFunc(slices.Clone(strangeNumbers), func(x int) bool { return x >= 0 && x <= 10000 })...)
	for n := 1; n <= 8; n++ {
		for many := range 11 {
			if many != n {
				check(n, slices.Repeat([][]int{{0, 0, -1, -1}}, many))
			}
		}
		for at := range n {
			for _, c := range [][]int{nil, {}, {0}, {0, 0, -1}, {0, 0, -1, -1, 0}, make([]int, 8)} {
				claims := impl.FirstClaims(n)
				claims[at] = c
				check(n, claims)
			}
			for _, cost := range notCosts {
				claims := impl.FirstClaims(n)
				claims[at][1] = cost
				check(n, claims)
			}
		}
	}
}

func TestTreesShareNoMemory(t *testing.T) {
	for n := 2; n <= 8; n++ {
		whole := mixedCables(n, 25, 9, n)
		list, before := whole[:18], slices.Clone(whole)
		claims, claimsBefore := mixedNumbers(4*n+5, 50, n), mixedNumbers(4*n+5, 50, n)
		var lists [][]int
		for b := range n {
			lists = append(lists, claims[4*b:4*b+4])
		}
		calls := map[string]func() [][]int{
			"RootOf": func() [][]int {
				impl.RootOf(n, list, n-1)
				return nil
			},
			"CablesValid": func() [][]int {
				impl.CablesValid(n, list)
				return nil
			},
			"CostsOf":     func() [][]int { return [][]int{impl.CostsOf(n, list)} },
			"TreeOf":      func() [][]int { return [][]int{impl.TreeOf(n, list)} },
			"WayUp":       func() [][]int { return [][]int{impl.WayUp(n, list, n-1)} },
			"FirstClaims": func() [][]int { return impl.FirstClaims(n) },
			"NextClaims":  func() [][]int { return impl.NextClaims(n, list, lists) },
			"ClaimsAfter": func() [][]int { return impl.ClaimsAfter(n, list, 3) },
		}
		for name, call := range calls {
			checkApart(t, name, claims, claimsBefore, append(call(), call()...)...)
			if !slices.Equal(whole, before) {
				t.Errorf("%s changes its cables, or what lies behind them: %v, want %v", name, whole, before)
				copy(whole, before)
			}
		}
	}
}
