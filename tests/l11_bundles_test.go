package tests

import (
	"cmp"
	"slices"
	"testing"

	"loop.example/wholenet/impl"
)

// notBundleStations are numbers of which none is a station, or all of them.
var notBundleStations = append([]int{15}, notStations...)

// notFlows are numbers of which none is a flow.
var notFlows = append([]int{240, 241, 300, 65521, 65536}, slices.DeleteFunc(slices.Clone(strangeNumbers), func(n int) bool {
	return n >= 0 && n < 240
})...)

// notMembers are numbers of which none is a wire.
var notMembers = append([]int{8, 9, 15, 16, 65521}, strangeNumbers...)

// notMemberCounts are numbers of wires that no bundle has.
var notMemberCounts = []int{0, 9, 10, 16, 100}

// wiresUp returns a bundle, written as 1 for a wire that is up, and 0 for another one.
func wiresUp(text string) []bool {
	up := make([]bool, len(text))
	for i, sign := range text {
		up[i] = sign == '1'
	}
	return up
}

// allBundles returns all bundles of so many wires.
func allBundles(many int) [][]bool {
	list := make([][]bool, 1<<many)
	for set := range list {
		list[set] = make([]bool, many)
		for i := range many {
			list[set][i] = set>>i%2 == 1
		}
	}
	return list
}

// notBundles returns wires that are no bundle, for how many they are.
func notBundles() [][]bool {
	bad := [][]bool{nil}
	for _, many := range notMemberCounts {
		last := make([]bool, many)
		if many > 0 {
			last[many-1] = true
		}
		bad = append(bad, make([]bool, many), slices.Repeat([]bool{true}, many), last)
	}
	return bad
}

// scoresByHand returns the scores of the first numbers, as the test reckons them:
// that of each from the one ahead of it, as both are n + 31 * n * n.
func scoresByHand() []int {
	scores := make([]int, 40000)
	for n := 1; n < len(scores); n++ {
		scores[n] = (scores[n-1] + 1 + 31*(2*n-1)) % 65521
	}
	return scores
}

// ranksByHand returns for each flow all eight wires, those that suit it best first,
// as the test reckons them.
func ranksByHand() [][]int {
	scores := scoresByHand()
	ranks := make([][]int, 240)
	for flow := range ranks {
		ranks[flow] = []int{0, 1, 2, 3, 4, 5, 6, 7}
		slices.SortStableFunc(ranks[flow], func(a, b int) int {
			return cmp.Compare(scores[131*flow+1117*b+7], scores[131*flow+1117*a+7])
		})
	}
	return ranks
}

// ranks are the wires that suit each flow, the best ones first.
var ranks = ranksByHand()

// memberByHand returns the wire of a flow, or -1, as the test reckons it.
func memberByHand(up []bool, flow int) int {
	for _, wire := range ranks[flow] {
		if wire < len(up) && up[wire] {
			return wire
		}
	}
	return -1
}

// membersByHand returns the wires of the flows 0 to 224, as the test reckons them.
func membersByHand(up []bool) []int {
	wires := make([]int, 225)
	for flow := range wires {
		wires[flow] = memberByHand(up, flow)
	}
	return wires
}

// sharesByHand returns how many flows each wire has, as the test reckons them.
func sharesByHand(up []bool) []int {
	shares := make([]int, len(up))
	for _, wire := range membersByHand(up) {
		if wire >= 0 {
			shares[wire]++
		}
	}
	return shares
}

// movedBetween returns how many numbers of two lists that are as long differ.
func movedBetween(a, b []int) int {
	moved := 0
	for i := range a {
		if a[i] != b[i] {
			moved++
		}
	}
	return moved
}

// spreadByHand returns which frames go over each wire, as the test reckons them,
// wire by wire.
func spreadByHand(up []bool, list []impl.Hop) [][]int {
	frames := make([][]int, len(up))
	for wire := range frames {
		for i, h := range list {
			if memberByHand(up, 15*h.From+h.To%15) == wire {
				frames[wire] = append(frames[wire], i)
			}
		}
	}
	return frames
}

// flowHops returns frames of flows, in order, at ports that no bridge has. Those for
// the station 0 are for all stations, every other time.
func flowHops(flows ...int) []impl.Hop {
	list := make([]impl.Hop, len(flows))
	for i, flow := range flows {
		list[i] = impl.Hop{From: flow / 15, To: flow % 15, Port: 7 * i}
		if flow%30 == 0 {
			list[i].To = 15
		}
	}
	return list
}

// upTo returns the numbers from one on that are below another one.
func upTo(from, below int) []int {
	var list []int
	for n := from; n < below; n++ {
		list = append(list, n)
	}
	return list
}

func TestBundleConstants(t *testing.T) {
	if impl.MaxMembers != 8 {
		t.Errorf("MaxMembers = %d", impl.MaxMembers)
	}
}

func TestFlowOf(t *testing.T) {
	cases := []struct{ from, to, want int }{
		{0, 0, 0}, {0, 1, 1}, {1, 0, 15}, {1, 2, 17}, {2, 1, 31}, {0, 14, 14}, {14, 0, 210}, {14, 14, 224}, {7, 7, 112},
		{0, 15, 0}, {1, 15, 15}, {7, 15, 105}, {14, 15, 210},
		{15, 0, -1}, {15, 15, -1}, {-1, 0, -1}, {-1, 15, -1}, {0, 16, -1}, {0, -1, -1}, {14, 16, -1}, {16, 16, -1},
	}
	for _, c := range cases {
		if got := impl.FlowOf(c.from, c.to); got != c.want {
			t.Errorf("FlowOf(%d, %d) = %d, want %d", c.from, c.to, got, c.want)
		}
	}
}

// TestAllFlows counts the flows of all stations.
func TestAllFlows(t *testing.T) {
	want := 0
	for from := range 15 {
		if got := impl.FlowOf(from, 15); got != want {
			t.Errorf("FlowOf(%d, 15) = %d, want %d", from, got, want)
		}
		for to := range 15 {
			if got := impl.FlowOf(from, to); got != want {
				t.Errorf("FlowOf(%d, %d) = %d, want %d", from, to, got, want)
			}
			want++
		}
	}
}

func TestNoFlow(t *testing.T) {
	for station := range 16 {
		for _, x := range notBundleStations {
			if got := impl.FlowOf(x, station); got != -1 {
				t.Errorf("FlowOf(%d, %d) = %d", x, station, got)
			}
		}
		for _, x := range notStations {
			if got := impl.FlowOf(station, x); got != -1 {
				t.Errorf("FlowOf(%d, %d) = %d", station, x, got)
			}
		}
	}
}

func TestScoreOf(t *testing.T) {
	cases := []struct{ flow, member, want int }{
		{0, 0, 1526}, {0, 1, 49743}, {0, 7, 40365}, {1, 0, 813}, {1, 1, 13885}, {1, 7, 55721},
		{17, 0, 20589}, {17, 1, 61030}, {17, 7, 4996}, {224, 0, 45629}, {224, 1, 18365}, {224, 7, 14748},
		{225, 0, 11486}, {225, 1, 14598}, {225, 7, 62195}, {239, 0, 62457}, {239, 1, 32186}, {239, 7, 10527},
		{92, 1, 13}, {89, 4, 65452}, // The least and the greatest of all.
		{-1, 0, -1}, {240, 0, -1}, {0, -1, -1}, {0, 8, -1}, {240, 8, -1}, {-1, -1, -1},
	}
	for _, c := range cases {
		if got := impl.ScoreOf(c.flow, c.member); got != c.want {
			t.Errorf("ScoreOf(%d, %d) = %d, want %d", c.flow, c.member, got, c.want)
		}
	}
}

// TestAllScores looks at every flow and wire. No flow has two wires with scores that
// are alike, so which of several such has it is never to be seen.
func TestAllScores(t *testing.T) {
	scores := scoresByHand()
	for flow := range 240 {
		seen := map[int]bool{}
		for member := range 8 {
			got, want := impl.ScoreOf(flow, member), scores[131*flow+1117*member+7]
			if got != want {
				t.Fatalf("ScoreOf(%d, %d) = %d, want %d", flow, member, got, want)
			}
			seen[got] = true
		}
		if len(seen) != 8 {
			t.Errorf("the flow %d has the scores %v", flow, seen)
		}
	}
}

func TestNoScore(t *testing.T) {
	for _, flow := range notFlows {
		for member := range 8 {
			if got := impl.ScoreOf(flow, member); got != -1 {
				t.Errorf("ScoreOf(%d, %d) = %d", flow, member, got)
			}
		}
	}
	for _, member := range notMembers {
		for flow := range 240 {
			if got := impl.ScoreOf(flow, member); got != -1 {
				t.Errorf("ScoreOf(%d, %d) = %d", flow, member, got)
			}
		}
	}
}

func TestMemberFor(t *testing.T) {
	flows := []int{0, 17, 224, 225, 239, -1, 240}
	cases := []struct {
		up   string
		want []int
	}{
		{"1", []int{0, 0, 0, 0, 0, -1, -1}},
		{"0", []int{-1, -1, -1, -1, -1, -1, -1}},
		{"11", []int{1, 1, 0, 1, 0, -1, -1}},
		{"101", []int{2, 0, 0, 2, 0, -1, -1}},
		{"010", []int{1, 1, 1, 1, 1, -1, -1}},
		{"111", []int{1, 1, 0, 2, 0, -1, -1}},
		{"000", []int{-1, -1, -1, -1, -1, -1, -1}},
		{"0110", []int{1, 1, 2, 2, 2, -1, -1}},
		{"10101010", []int{4, 4, 4, 2, 0, -1, -1}},
		{"11111111", []int{4, 1, 4, 7, 0, -1, -1}},
		{"00000001", []int{7, 7, 7, 7, 7, -1, -1}},
		{"00000000", []int{-1, -1, -1, -1, -1, -1, -1}},
		{"", []int{-1, -1, -1, -1, -1, -1, -1}},
		{"111111111", []int{-1, -1, -1, -1, -1, -1, -1}},
	}
	for _, c := range cases {
		for i, flow := range flows {
			if got := impl.MemberFor(wiresUp(c.up), flow); got != c.want[i] {
				t.Errorf("MemberFor(%q, %d) = %d, want %d", c.up, flow, got, c.want[i])
			}
		}
	}
}

func TestSharesOf(t *testing.T) {
	cases := []struct {
		up   string
		want []int
	}{
		{"1", []int{225}},
		{"0", []int{0}},
		{"11", []int{113, 112}},
		{"111", []int{76, 84, 65}},
		{"101", []int{117, 0, 108}},
		{"010", []int{0, 225, 0}},
		{"000", []int{0, 0, 0}},
		{"0110", []int{0, 116, 109, 0}},
		{"11111111", []int{33, 29, 17, 32, 30, 23, 28, 33}},
		{"10101010", []int{64, 0, 51, 0, 54, 0, 56, 0}},
		{"00000001", []int{0, 0, 0, 0, 0, 0, 0, 225}},
		{"00000000", []int{0, 0, 0, 0, 0, 0, 0, 0}},
		{"", nil},
		{"111111111", nil},
	}
	for _, c := range cases {
		if got := impl.SharesOf(wiresUp(c.up)); !slices.Equal(got, c.want) {
			t.Errorf("SharesOf(%q) = %v, want %v", c.up, got, c.want)
		}
	}
}

// TestAllBundles looks at all bundles, with every flow.
func TestAllBundles(t *testing.T) {
	for many := 1; many <= 8; many++ {
		for _, up := range allBundles(many) {
			for flow := range 240 {
				if got, want := impl.MemberFor(up, flow), memberByHand(up, flow); got != want {
					t.Fatalf("MemberFor(%v, %d) = %d, want %d", up, flow, got, want)
				}
			}
			for _, flow := range notFlows {
				if got := impl.MemberFor(up, flow); got != -1 {
					t.Fatalf("MemberFor(%v, %d) = %d", up, flow, got)
				}
			}
			if got, want := impl.SharesOf(up), sharesByHand(up); !slices.Equal(got, want) {
				t.Fatalf("SharesOf(%v) = %v, want %v", up, got, want)
			}
		}
	}
}

func TestNoBundle(t *testing.T) {
	for _, up := range notBundles() {
		for _, flow := range append(upTo(0, 240), notFlows...) {
			if got := impl.MemberFor(up, flow); got != -1 {
				t.Fatalf("MemberFor(%v, %d) = %d", up, flow, got)
			}
		}
		if got := impl.SharesOf(up); len(got) != 0 {
			t.Errorf("SharesOf(%v) = %v", up, got)
		}
		for _, list := range [][]impl.Hop{nil, flowHops(0), flowHops(upTo(100, 160)...)} {
			if got := impl.SpreadFrames(up, list); len(got) != 0 {
				t.Errorf("SpreadFrames(%v, %v) = %v", up, list, got)
			}
		}
		for many := 1; many <= 8; many++ {
			whole := slices.Repeat([]bool{true}, many)
			if got := impl.MovedFlows(up, whole); got != -1 {
				t.Errorf("MovedFlows(%v, %v) = %d", up, whole, got)
			}
			if got := impl.MovedFlows(whole, up); got != -1 {
				t.Errorf("MovedFlows(%v, %v) = %d", whole, up, got)
			}
		}
		// Two that are alike are none all the same.
		if got := impl.MovedFlows(up, slices.Clone(up)); got != -1 {
			t.Errorf("MovedFlows(%v, %v) = %d", up, up, got)
		}
	}
}

func TestMovedFlows(t *testing.T) {
	cases := []struct {
		name string
		a, b string
		want int
	}{
		{"nothing changes", "111", "111", 0},
		{"none is up in both", "000", "000", 0},
		{"none is up in both, of one wire", "0", "0", 0},
		{"all go down", "11111111", "00000000", 225},
		{"the only one goes down", "010", "000", 225},
		{"one of three goes down", "111", "101", 84},
		{"one of eight goes down", "11111111", "01111111", 33},
		{"another one is up", "10", "01", 225},
		{"all others are up", "1010", "0101", 225},
		{"one goes down, and one comes up", "110", "011", 141},
		{"not as many wires", "11", "111", -1},
		{"not as many wires, with as many up", "11", "110", -1},
		{"not as many wires, none of which is up", "0", "00", -1},
		{"no wires", "", "", -1},
		{"nine wires", "111111111", "111111111", -1},
	}
	for _, c := range cases {
		if got := impl.MovedFlows(wiresUp(c.a), wiresUp(c.b)); got != c.want {
			t.Errorf("%s: MovedFlows(%q, %q) = %d, want %d", c.name, c.a, c.b, got, c.want)
		}
		if got := impl.MovedFlows(wiresUp(c.b), wiresUp(c.a)); got != c.want {
			t.Errorf("%s: MovedFlows(%q, %q) = %d, want %d", c.name, c.b, c.a, got, c.want)
		}
	}
}

// TestAllMoves looks at all pairs of bundles of up to five wires, and at many of
// those of more.
func TestAllMoves(t *testing.T) {
	for many := 1; many <= 8; many++ {
		bundles := allBundles(many)
		members := make([][]int, len(bundles))
		for i, up := range bundles {
			members[i] = membersByHand(up)
		}
		for i, a := range bundles {
			for j := range min(len(bundles), 32) {
				other := (j + i) % len(bundles) // All of them, if they are up to 32.
				got, want := impl.MovedFlows(a, bundles[other]), movedBetween(members[i], members[other])
				if got != want {
					t.Fatalf("MovedFlows(%v, %v) = %d, want %d", a, bundles[other], got, want)
				}
			}
		}
	}
}

func TestMovesOfOtherLengths(t *testing.T) {
	for a := range 11 {
		for b := range 11 {
			for _, up := range []bool{false, true} {
				one, other := slices.Repeat([]bool{up}, a), slices.Repeat([]bool{up}, b)
				want := -1
				if a == b && a >= 1 && a <= 8 {
					want = 0
				}
				if got := impl.MovedFlows(one, other); got != want {
					t.Errorf("MovedFlows(%v, %v) = %d, want %d", one, other, got, want)
				}
			}
		}
	}
}

func TestSpreadFrames(t *testing.T) {
	list := []impl.Hop{
		{From: 1, To: 2}, {From: 2, To: 1}, {From: 0, To: 0}, {From: 0, To: 15}, {From: 14, To: 14},
		{From: 14, To: 15}, {From: 7, To: 0}, {From: 7, To: 15}, {From: 1, To: 2, Port: 5},
	}
	cases := []struct {
		up   string
		want [][]int
	}{
		{"111", [][]int{{4, 6, 7}, {0, 1, 2, 3, 8}, {5}}},
		{"101", [][]int{{0, 1, 4, 6, 7, 8}, nil, {2, 3, 5}}},
		{"010", [][]int{nil, {0, 1, 2, 3, 4, 5, 6, 7, 8}, nil}},
		{"000", [][]int{nil, nil, nil}},
		{"1", [][]int{{0, 1, 2, 3, 4, 5, 6, 7, 8}}},
		{"0", [][]int{nil}},
		{"11111111", [][]int{nil, {0, 8}, nil, {6, 7}, {1, 2, 3, 4}, {5}, nil, nil}},
		{"", nil},
		{"111111111", nil},
	}
	for _, c := range cases {
		if got := impl.SpreadFrames(wiresUp(c.up), list); !sameLists(got, c.want) {
			t.Errorf("SpreadFrames(%q) = %v, want %v", c.up, got, c.want)
		}
	}
	if got := impl.SpreadFrames(wiresUp("101"), nil); !sameLists(got, [][]int{nil, nil, nil}) {
		t.Errorf("SpreadFrames of no frames = %v", got)
	}
}

// TestSpreadAllFlows spreads frames of every flow over all bundles.
func TestSpreadAllFlows(t *testing.T) {
	lists := [][]impl.Hop{nil, flowHops(slices.Repeat([]int{17}, 60)...)}
	for from := 0; from < 225; from += 45 {
		lists = append(lists, flowHops(upTo(from, from+45)...))
	}
	for seed := range 3 {
		lists = append(lists, mixedHops(60, 6, 15, seed), flowHops(mixedNumbers(59, 225, seed)...))
	}
	for many := 1; many <= 8; many++ {
		for _, up := range allBundles(many) {
			for _, list := range lists {
				if got, want := impl.SpreadFrames(up, list), spreadByHand(up, list); !sameLists(got, want) {
					t.Fatalf("SpreadFrames(%v, %v) = %v, want %v", up, list, got, want)
				}
			}
		}
	}
}

// TestFramesForAll looks whether frames for all stations go as those for the
// station 0 do.
func TestFramesForAll(t *testing.T) {
	var forAll, forNone []impl.Hop
	for from := range 15 {
		forAll = append(forAll, impl.Hop{From: from, To: 15})
		forNone = append(forNone, impl.Hop{From: from, To: 0})
	}
	for many := 1; many <= 8; many++ {
		for _, up := range allBundles(many) {
			got, want := impl.SpreadFrames(up, forAll), impl.SpreadFrames(up, forNone)
			if len(got) != many || !sameLists(got, want) {
				t.Fatalf("SpreadFrames(%v) = %v for all, %v for the station 0", up, got, want)
			}
		}
	}
}

// TestPortsOfSpreadFrames looks whether a frame goes over the same wire whatever its
// port is, as a bundle has no ports.
func TestPortsOfSpreadFrames(t *testing.T) {
	up := wiresUp("11011")
	list := flowHops(mixedNumbers(60, 225, 7)...)
	want := spreadByHand(up, list)
	for _, port := range append([]int{0, 1, 5, 6, 7}, strangeNumbers...) {
		for i := range list {
			list[i].Port = port
		}
		if got := impl.SpreadFrames(up, list); !sameLists(got, want) {
			t.Errorf("SpreadFrames at the port %d = %v, want %v", port, got, want)
		}
	}
}

func TestNotSpread(t *testing.T) {
	var bad []impl.Hop
	for _, x := range notBundleStations {
		bad = append(bad, impl.Hop{From: x, To: 1}, impl.Hop{From: x, To: 15}, impl.Hop{From: x, To: x})
	}
	for _, x := range notStations {
		bad = append(bad, impl.Hop{From: 1, To: x}, impl.Hop{From: 14, To: x})
	}
	var lists [][]impl.Hop
	for i, h := range bad {
		for _, many := range []int{1, 2, 60} {
			for _, at := range []int{0, many / 2, many - 1} {
				list := flowHops(mixedNumbers(many, 225, i)...)
				list[at] = h
				lists = append(lists, list)
			}
		}
	}
	for _, many := range []int{61, 62, 120, 1000} {
		lists = append(lists, flowHops(mixedNumbers(many, 225, many)...), make([]impl.Hop, many))
	}
	for _, list := range lists {
		for _, up := range []string{"0", "1", "01", "101", "000", "11111111", "00000000"} {
			if got := impl.SpreadFrames(wiresUp(up), list); len(got) != 0 {
				t.Fatalf("SpreadFrames(%q, %v) = %v", up, list, got)
			}
		}
	}
}

// TestOnlyItsOwnFlowsMove is promise 11: for all bundles, when a wire of them goes
// down, and so too when it comes up again.
func TestOnlyItsOwnFlowsMove(t *testing.T) {
	for many := 1; many <= 8; many++ {
		for _, up := range allBundles(many) {
			for wire := range up {
				if up[wire] {
					checkGoesDown(t, up, wire)
				}
			}
		}
	}
}

// checkGoesDown looks what moves when a wire of a bundle goes down.
func checkGoesDown(t *testing.T, up []bool, wire int) {
	t.Helper()
	down := slices.Clone(up)
	down[wire] = false
	left := slices.Contains(down, true)
	moved := 0
	for flow := range 240 {
		was, is := impl.MemberFor(up, flow), impl.MemberFor(down, flow)
		if was != wire && is != was {
			t.Fatalf("the wire %d of %v goes down, and the flow %d moves from %d to %d", wire, up, flow, was, is)
		}
		if was == wire && left && (is < 0 || !down[is]) || !left && is != -1 {
			t.Fatalf("the wire %d of %v goes down, and the flow %d goes over %d", wire, up, flow, is)
		}
		if was == wire && flow < 225 {
			moved++
		}
	}
	shares, after := impl.SharesOf(up), impl.SharesOf(down)
	gone, back := impl.MovedFlows(up, down), impl.MovedFlows(down, up)
	if shares[wire] != moved || gone != moved || back != moved || after[wire] != 0 {
		t.Fatalf("the wire %d of %v goes down: it had %d flows, %d move, %d move back, and it has %d then; want %d", wire, up, shares[wire], gone, back, after[wire], moved)
	}
	checkFramesStay(t, up, down, wire)
}

// checkFramesStay looks whether the frames that do not go over a wire go where they
// went when it goes down, and all others go over one that is left, if there is one.
func checkFramesStay(t *testing.T, up, down []bool, wire int) {
	t.Helper()
	list := flowHops(mixedNumbers(60, 225, wire)...)
	before, after := impl.SpreadFrames(up, list), impl.SpreadFrames(down, list)
	count := 0
	for other, frames := range after {
		count += len(frames)
		for _, i := range before[other] {
			if other != wire && !slices.Contains(frames, i) {
				t.Fatalf("the wire %d of %v goes down, and the frame %d goes no more over %d", wire, up, i, other)
			}
		}
		if other == wire && len(frames) != 0 {
			t.Fatalf("the wire %d of %v goes down, and frames go over it: %v", wire, up, frames)
		}
	}
	if slices.Contains(down, true) && count != len(list) {
		t.Fatalf("the wire %d of %v goes down, and of %d frames %d go on", wire, up, len(list), count)
	}
}

func TestBundlesShareNoMemory(t *testing.T) {
	whole := wiresUp("110101111110")
	others := wiresUp("011101001011")
	wholeBefore, othersBefore := slices.Clone(whole), slices.Clone(others)
	frames := flowHops(mixedNumbers(80, 225, 3)...)
	framesBefore := slices.Clone(frames)
	for many := 1; many <= 8; many++ {
		up, list := whole[:many], frames[:60]
		impl.MovedFlows(up, others[:many])
		impl.MovedFlows(others[:many], up)
		impl.MemberFor(up, 17)
		checkApart(t, "SharesOf", nil, nil, impl.SharesOf(up), impl.SharesOf(up))
		spread, again := impl.SpreadFrames(up, list), impl.SpreadFrames(up, list)
		checkApart(t, "SpreadFrames", nil, nil, slices.Concat(spread, again)...)
		spread, again = impl.SpreadFrames(up, list), impl.SpreadFrames(up, list)
		clear(spread[:cap(spread)])
		if want := spreadByHand(up, list); !sameLists(again, want) {
			t.Errorf("SpreadFrames shares memory of its results: %v, want %v", again, want)
		}
		if !slices.Equal(whole, wholeBefore) || !slices.Equal(others, othersBefore) || !slices.Equal(frames, framesBefore) {
			t.Fatalf("with %d wires, an argument changes, or what lies behind it", many)
		}
	}
}
