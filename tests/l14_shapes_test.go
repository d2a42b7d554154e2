package tests

import (
	"math"
	"slices"
	"testing"

	"loop.example/wholenet/impl"
)

// notRates are numbers of tokens that no shaper gets with a step of time.
var notRates = append([]int{0, 21, 22, 40, 100}, strangeNumbers...)

// notBursts are numbers of tokens that no shaper can have.
var notBursts = append([]int{0, 101, 102, 200, 2000}, strangeNumbers...)

// notPulseSizes are sizes that no frame of a shaper has.
var notPulseSizes = append([]int{0, 51, 52, 60, 100}, strangeNumbers...)

// notPulseTimes are times at which no frame of a shaper comes.
var notPulseTimes = []int{math.MinInt, -2001, -2000, -2, -1, 2001, 2002, 4000, 1 << 32, math.MaxInt}

// pulsesOf returns frames, of each of which two numbers are the time and the size.
func pulsesOf(numbers ...int) []impl.Pulse {
	var list []impl.Pulse
	for pair := range slices.Chunk(numbers, 2) {
		list = append(list, impl.Pulse{At: pair[0], Size: pair[1]})
	}
	return list
}

// alike returns so many frames of one size at one time.
func alike(many, at, size int) []impl.Pulse {
	return slices.Repeat(pulsesOf(at, size), many)
}

// mixedPulses returns so many frames of sizes up to one, the first of which comes
// near a time, and which are less than so many steps apart.
func mixedPulses(many, from, apart, most, seed int) []impl.Pulse {
	steps, sizes := mixedNumbers(many, apart, seed), mixedNumbers(many, most, seed+77)
	list := make([]impl.Pulse, many)
	for i := range list {
		from = min(2000, from+steps[i])
		list[i] = impl.Pulse{At: from, Size: 1 + sizes[i]}
	}
	return list
}

// pulsesAmong returns all lists of at most so many frames at times below one, with
// some sizes, in the order of their times.
func pulsesAmong(times int, sizes []int, many int) [][]impl.Pulse {
	lists := [][]impl.Pulse{nil}
	for from := 0; many > 0; many-- {
		until := len(lists)
		for _, list := range lists[from:until] {
			first := 0
			if len(list) > 0 {
				first = list[len(list)-1].At
			}
			for _, at := range upTo(first, times) {
				for _, size := range sizes {
					lists = append(lists, append(slices.Clone(list), impl.Pulse{At: at, Size: size}))
				}
			}
		}
		from = until
	}
	return lists
}

// badPulses returns lists that are no frames of a shaper, most of which are some when
// one thing about them is changed.
func badPulses() [][]impl.Pulse {
	bad := [][]impl.Pulse{alike(61, 0, 1), alike(61, 2000, 50), alike(62, 7, 3), mixedPulses(61, 0, 9, 50, 1), mixedPulses(1000, 0, 2, 9, 2)}
	for _, many := range []int{1, 2, 3, 60} {
		for _, at := range []int{0, many / 2, many - 1} {
			for i, size := range notPulseSizes {
				list := mixedPulses(many, i, 9, 50, i)
				list[at].Size = size
				bad = append(bad, list)
			}
			for i, time := range notPulseTimes {
				list := mixedPulses(many, i, 9, 50, i)
				list[at].At = time
				bad = append(bad, list)
			}
		}
	}
	for _, many := range []int{2, 3, 60} {
		for _, at := range []int{1, many / 2, many - 1} {
			early, late := alike(many, 1000, 5), mixedPulses(many, 0, 9, 50, many)
			early[at].At = 999
			late[at-1].At = late[at].At + 1
			bad = append(bad, early, late)
		}
	}
	return append(bad, pulsesOf(0, 1, 2000, 1, 1999, 1), pulsesOf(2000, 50, 0, 1), pulsesOf(3, 1, 2, 1, 1, 1))
}

// policedByHand returns which frames are let through, and how many tokens there are
// at each time up to one, behind the frames of that time, as the test reckons it:
// step by step.
func policedByHand(rate, burst int, list []impl.Pulse, end int) (through []bool, tokens []int) {
	has := burst
	for at := range end + 1 {
		for len(through) < len(list) && list[len(through)].At == at {
			size := list[len(through)].Size
			goes := size <= has
			if goes {
				has -= size
			}
			through = append(through, goes)
		}
		tokens = append(tokens, has)
		has = min(burst, has+rate)
	}
	return through, tokens
}

// shapedByHand returns when frames go on, as the test reckons it: step by step.
func shapedByHand(rate, burst int, list []impl.Pulse) []int {
	if slices.ContainsFunc(list, func(p impl.Pulse) bool { return p.Size > burst }) {
		return nil
	}
	var times []int
	has := burst
	for at := 0; len(times) < len(list); at++ {
		for len(times) < len(list) && list[len(times)].At <= at && list[len(times)].Size <= has {
			has -= list[len(times)].Size
			times = append(times, at)
		}
		has = min(burst, has+rate)
	}
	return times
}

// mostAtOnce returns how much of a burst is needed for frames at times at most, as
// the test reckons it: for each row of them one behind the other, what they take less
// what comes from the first one to the last one.
func mostAtOnce(rate int, times, sizes []int) int {
	most := 0
	for first := range times {
		sum := 0
		for last := first; last < len(times); last++ {
			sum += sizes[last]
			most = max(most, sum-rate*(times[last]-times[first]))
		}
	}
	return most
}

// timesAndSizes returns the times of frames, and their sizes.
func timesAndSizes(list []impl.Pulse) (times, sizes []int) {
	for _, p := range list {
		times, sizes = append(times, p.At), append(sizes, p.Size)
	}
	return times, sizes
}

// leastByHand returns the least burst to which frames keep, as the test reckons it.
func leastByHand(rate int, list []impl.Pulse) int {
	times, sizes := timesAndSizes(list)
	least := max(1, mostAtOnce(rate, times, sizes))
	if least > 100 {
		return -1
	}
	return least
}

// checkShapes looks at all that a shaper makes of frames, and at its tokens at times
// up to one.
func checkShapes(t *testing.T, rate, burst int, list []impl.Pulse, end int) {
	t.Helper()
	last := end
	if len(list) > 0 {
		last = max(end, list[len(list)-1].At)
	}
	through, tokens := policedByHand(rate, burst, list, last)
	if got := impl.PolicePulses(rate, burst, list); !slices.Equal(got, through) {
		t.Fatalf("PolicePulses(%d, %d, %v) = %v, want %v", rate, burst, list, got, through)
	}
	if got, want := impl.Conforms(rate, burst, list), !slices.Contains(through, false); got != want {
		t.Fatalf("Conforms(%d, %d, %v) = %v, want %v", rate, burst, list, got, want)
	}
	for at, want := range tokens[:end+1] {
		if got := impl.TokensAt(rate, burst, list, at); got != want {
			t.Fatalf("TokensAt(%d, %d, %v, %d) = %d, want %d", rate, burst, list, at, got, want)
		}
	}
	if got, want := impl.ShapePulses(rate, burst, list), shapedByHand(rate, burst, list); !slices.Equal(got, want) {
		t.Fatalf("ShapePulses(%d, %d, %v) = %v, want %v", rate, burst, list, got, want)
	}
}

// checkLeast looks at the least burst to which frames keep.
func checkLeast(t *testing.T, rate int, list []impl.Pulse) {
	t.Helper()
	if !impl.PulsesValid(list) {
		t.Fatalf("PulsesValid(%v) = false", list)
	}
	if got, want := impl.LeastBurst(rate, list), leastByHand(rate, list); got != want {
		t.Fatalf("LeastBurst(%d, %v) = %d, want %d", rate, list, got, want)
	}
}

// checkNoShapes looks whether something is made of frames by a shaper, one of which
// there is not.
func checkNoShapes(t *testing.T, rate, burst int, list []impl.Pulse) {
	t.Helper()
	if got := impl.PolicePulses(rate, burst, list); len(got) != 0 {
		t.Errorf("PolicePulses(%d, %d, %v) = %v", rate, burst, list, got)
	}
	if impl.Conforms(rate, burst, list) {
		t.Errorf("Conforms(%d, %d, %v) = true", rate, burst, list)
	}
	if got := impl.ShapePulses(rate, burst, list); len(got) != 0 {
		t.Errorf("ShapePulses(%d, %d, %v) = %v", rate, burst, list, got)
	}
	for _, at := range []int{-1, 0, 1, 1000, 2000, 2001} {
		if got := impl.TokensAt(rate, burst, list, at); got != -1 {
			t.Errorf("TokensAt(%d, %d, %v, %d) = %d", rate, burst, list, at, got)
		}
	}
}

func TestShaperConstants(t *testing.T) {
	got := []int{impl.MaxPulses, impl.MaxAt, impl.MaxPulse, impl.MaxRate, impl.MaxBurst}
	if want := []int{60, 2000, 50, 20, 100}; !slices.Equal(got, want) {
		t.Errorf("MaxPulses, MaxAt, MaxPulse, MaxRate and MaxBurst are %v, want %v", got, want)
	}
}

func TestPulsesValid(t *testing.T) {
	cases := []struct {
		name string
		list []impl.Pulse
		want bool
	}{
		{"no frames", nil, true},
		{"no frames in memory", []impl.Pulse{}, true},
		{"the smallest frame", pulsesOf(0, 1), true},
		{"the greatest frame", pulsesOf(2000, 50), true},
		{"ahead of all times", pulsesOf(-1, 1), false},
		{"behind all times", pulsesOf(2001, 1), false},
		{"nothing in a frame", pulsesOf(0, 0), false},
		{"less than nothing", pulsesOf(0, -1), false},
		{"too great", pulsesOf(0, 51), false},
		{"two at one time", pulsesOf(7, 1, 7, 1), true},
		{"the smaller one behind", pulsesOf(7, 9, 7, 1), true},
		{"one behind the other", pulsesOf(7, 1, 8, 1), true},
		{"one ahead of the other", pulsesOf(8, 1, 7, 1), false},
		{"the last one ahead", pulsesOf(1, 1, 5, 1, 4, 1), false},
		{"the last one ahead of that in between alone", pulsesOf(1, 1, 5, 1, 3, 1), false},
		{"the first one behind", pulsesOf(6, 1, 5, 1, 5, 1), false},
		{"from the first time to the last one", pulsesOf(0, 50, 2000, 50), true},
		{"as many as may be", alike(60, 2000, 50), true},
		{"one too many", alike(61, 0, 1), false},
	}
	for _, c := range cases {
		if got := impl.PulsesValid(c.list); got != c.want {
			t.Errorf("%s: PulsesValid(%v) = %v, want %v", c.name, c.list, got, c.want)
		}
	}
	for _, list := range badPulses() {
		if impl.PulsesValid(list) {
			t.Errorf("PulsesValid(%v) = true", list)
		}
	}
	for many := range 61 {
		if list := mixedPulses(many, many, 40, 50, many); !impl.PulsesValid(list) {
			t.Errorf("PulsesValid(%v) = false", list)
		}
	}
}

// TestPulsesOfAllTimes looks at each time and size, and at all orders of few times.
func TestPulsesOfAllTimes(t *testing.T) {
	for at := -60; at <= 2060; at++ {
		for _, size := range []int{-50, -1, 0, 1, 25, 50, 51, 100} {
			want := at >= 0 && at <= 2000 && size >= 1 && size <= 50
			if got := impl.PulsesValid(pulsesOf(at, size)); got != want {
				t.Errorf("PulsesValid of a frame of the size %d at %d is %v", size, at, got)
			}
		}
	}
	for size := -60; size <= 120; size++ {
		if got, want := impl.PulsesValid(pulsesOf(3, 1, 3, size)), size >= 1 && size <= 50; got != want {
			t.Errorf("PulsesValid of a frame of the size %d is %v", size, got)
		}
	}
	for _, times := range listsOf([]int{0, 1, 2, 3}, 5) {
		var list []impl.Pulse
		for i, at := range times {
			list = append(list, impl.Pulse{At: at, Size: 9 - i})
		}
		if got, want := impl.PulsesValid(list), slices.IsSorted(times); got != want {
			t.Errorf("PulsesValid(%v) = %v, want %v", list, got, want)
		}
	}
}

// policeCases are frames, and which of them are let through.
var policeCases = []struct {
	name        string
	rate, burst int
	list        []impl.Pulse
	want        []bool
}{
	{"the given example", 1, 2, alike(2, 0, 2), []bool{true, false}},
	{"no frames", 1, 1, nil, nil},
	{"all tokens at the time 0", 1, 100, alike(2, 0, 50), []bool{true, true}},
	{"one more than all tokens", 1, 99, alike(2, 0, 50), []bool{true, false}},
	{"one token more", 1, 100, pulsesOf(0, 50, 0, 50, 0, 1), []bool{true, true, false}},
	{"greater than the burst", 20, 49, pulsesOf(2000, 50), []bool{false}},
	{"as great as the burst", 1, 50, pulsesOf(0, 50), []bool{true}},
	{"a frame that is not let through takes none", 1, 4, pulsesOf(0, 3, 0, 2, 0, 1), []bool{true, false, true}},
	{"and is not let through later", 1, 4, pulsesOf(0, 5, 0, 4, 9, 4), []bool{false, true, true}},
	{"just in time", 3, 7, pulsesOf(5, 7, 7, 6), []bool{true, true}},
	{"a step too early", 3, 7, pulsesOf(5, 7, 6, 6), []bool{true, false}},
	{"a token too few", 3, 7, pulsesOf(5, 7, 7, 7), []bool{true, false}},
	{"full does not get more full", 3, 7, pulsesOf(0, 7, 3, 7, 3, 1), []bool{true, true, false}},
	{"full for long", 20, 10, pulsesOf(2000, 10, 2000, 1), []bool{true, false}},
	{"full of a part of a rate", 20, 10, pulsesOf(0, 1, 1, 10, 1, 1), []bool{true, true, false}},
	{"the last time", 1, 50, pulsesOf(1950, 50, 2000, 50, 2000, 1), []bool{true, true, false}},
	{"a step too few for the last time", 1, 50, pulsesOf(1951, 50, 2000, 50, 2000, 49), []bool{true, false, true}},
}

func TestPolicePulses(t *testing.T) {
	for _, c := range policeCases {
		if got := impl.PolicePulses(c.rate, c.burst, c.list); !slices.Equal(got, c.want) {
			t.Errorf("%s: PolicePulses(%d, %d, %v) = %v, want %v", c.name, c.rate, c.burst, c.list, got, c.want)
		}
		if got, want := impl.Conforms(c.rate, c.burst, c.list), !slices.Contains(c.want, false); got != want {
			t.Errorf("%s: Conforms(%d, %d, %v) = %v, want %v", c.name, c.rate, c.burst, c.list, got, want)
		}
		checkShapes(t, c.rate, c.burst, c.list, 2000)
		checkLeast(t, c.rate, c.list)
	}
}

func TestShapePulses(t *testing.T) {
	cases := []struct {
		name        string
		rate, burst int
		list        []impl.Pulse
		want        []int
	}{
		{"the document's example", 1, 2, alike(2, 0, 2), []int{0, 2}},
		{"no frames", 1, 1, nil, nil},
		{"at their own times", 1, 9, pulsesOf(3, 1, 4, 1, 9, 9), []int{3, 4, 9}},
		{"one behind the other", 1, 1, alike(4, 0, 1), []int{0, 1, 2, 3}},
		{"as great as the burst", 1, 50, alike(3, 7, 50), []int{7, 57, 107}},
		{"greater than the burst", 20, 49, pulsesOf(0, 50), nil},
		{"the last one alone greater than the burst", 1, 4, pulsesOf(0, 1, 9, 4, 2000, 5), nil},
		{"a small one does not go ahead", 1, 5, pulsesOf(0, 4, 0, 5, 0, 1), []int{0, 4, 5}},
		{"a small one goes on with a great one", 2, 5, pulsesOf(0, 4, 0, 4, 0, 1), []int{0, 2, 2}},
		{"a small one behind a great one that waits", 2, 5, pulsesOf(0, 5, 1, 5, 2, 1), []int{0, 3, 4}},
		{"a part of a step is not lost", 2, 5, pulsesOf(0, 5, 0, 1, 0, 1, 0, 1), []int{0, 1, 1, 2}},
		{"full on the way", 3, 7, pulsesOf(0, 7, 0, 1, 3, 7, 3, 1), []int{0, 1, 3, 4}},
		{"as if it were all in one step", 20, 20, alike(5, 1, 20), []int{1, 2, 3, 4, 5}},
		{"full does not get more full", 20, 10, pulsesOf(2000, 10, 2000, 1), []int{2000, 2001}},
		{"behind the last time", 1, 50, alike(4, 2000, 50), []int{2000, 2050, 2100, 2150}},
	}
	for _, c := range cases {
		if got := impl.ShapePulses(c.rate, c.burst, c.list); !slices.Equal(got, c.want) {
			t.Errorf("%s: ShapePulses(%d, %d, %v) = %v, want %v", c.name, c.rate, c.burst, c.list, got, c.want)
		}
		checkShapes(t, c.rate, c.burst, c.list, 2000)
		checkLeast(t, c.rate, c.list)
	}
	if got := impl.ShapePulses(1, 50, alike(60, 2000, 50)); len(got) != 60 || got[59] != 4950 {
		t.Errorf("ShapePulses of 60 frames of the size 50 at 2000 = %v", got)
	}
}

func TestTokensAt(t *testing.T) {
	list := pulsesOf(2, 3, 2, 2, 3, 4, 5, 1, 5, 5)
	cases := []struct {
		name                  string
		rate, burst, at, want int
	}{
		{"full in the beginning", 1, 5, 0, 5},
		{"full ahead of the first frame", 1, 5, 1, 5},
		{"behind both frames of one time", 1, 5, 2, 0},
		{"a frame that is not let through", 1, 5, 3, 1},
		{"a step later", 1, 5, 4, 2},
		{"one of two frames let through", 1, 5, 5, 2},
		{"three steps later", 1, 5, 8, 5},
		{"no more than full", 1, 5, 9, 5},
		{"full in the end", 1, 5, 2000, 5},
		{"the second frame is not let through", 2, 4, 2, 1},
		{"a part of a step is not lost", 2, 4, 3, 3},
		{"full by a part of a rate", 2, 4, 4, 4},
		{"nothing left", 4, 5, 5, 4},
		{"ahead of all times", 1, 5, -1, -1},
		{"behind all times", 1, 5, 2001, -1},
	}
	for _, c := range cases {
		if got := impl.TokensAt(c.rate, c.burst, list, c.at); got != c.want {
			t.Errorf("%s: TokensAt(%d, %d, %v, %d) = %d, want %d", c.name, c.rate, c.burst, list, c.at, got, c.want)
		}
	}
	if got := impl.TokensAt(1, 2, alike(2, 0, 2), 0); got != 0 {
		t.Errorf("TokensAt behind frames at the time 0 = %d", got)
	}
	if got := impl.TokensAt(20, 100, pulsesOf(2000, 50, 2000, 49), 2000); got != 1 {
		t.Errorf("TokensAt behind frames at the last time = %d", got)
	}
	for burst := 1; burst <= 100; burst++ {
		for _, at := range []int{0, 1, 1999, 2000} {
			if got := impl.TokensAt(3, burst, nil, at); got != burst {
				t.Errorf("TokensAt(3, %d, no frames, %d) = %d", burst, at, got)
			}
		}
	}
}

func TestLeastBurst(t *testing.T) {
	cases := []struct {
		name string
		rate int
		list []impl.Pulse
		want int
	}{
		{"the given example", 1, alike(2, 0, 2), 4},
		{"no frames", 1, nil, 1},
		{"no frames, the greatest rate", 20, nil, 1},
		{"the smallest frame", 1, pulsesOf(0, 1), 1},
		{"the greatest frame", 20, pulsesOf(2000, 50), 50},
		{"frames at one time", 20, pulsesOf(9, 1, 9, 2, 9, 3), 6},
		{"all bursts but the greatest", 1, pulsesOf(0, 50, 0, 49), 99},
		{"the greatest burst", 1, alike(2, 0, 50), 100},
		{"a token too many", 1, pulsesOf(0, 50, 0, 50, 0, 1), -1},
		{"a token too many, a step later", 1, pulsesOf(0, 50, 0, 50, 1, 1), 100},
		{"far too many", 20, alike(60, 0, 50), -1},
		{"as much as comes", 20, pulsesOf(0, 20, 1, 20, 2, 20), 20},
		{"more than comes", 19, pulsesOf(0, 20, 1, 20, 2, 20), 22},
		{"less than comes", 20, pulsesOf(0, 20, 1, 19, 2, 20), 20},
		{"the row in between", 1, pulsesOf(0, 9, 100, 9, 101, 9, 200, 9), 17},
		{"a part of a row", 3, pulsesOf(0, 4, 5, 2, 5, 4, 7, 1, 8, 5), 6},
	}
	for _, c := range cases {
		if got := impl.LeastBurst(c.rate, c.list); got != c.want {
			t.Errorf("%s: LeastBurst(%d, %v) = %d, want %d", c.name, c.rate, c.list, got, c.want)
		}
		checkLeast(t, c.rate, c.list)
	}
}

// TestAllSmallShapes looks at all lists of up to four frames of three sizes at three
// times, and of up to three frames of five sizes at five times.
func TestAllSmallShapes(t *testing.T) {
	lists := append(pulsesAmong(3, []int{1, 2, 3}, 4), pulsesAmong(5, []int{1, 2, 3, 5, 7}, 3)...)
	for _, list := range lists {
		for rate := 1; rate <= 4; rate++ {
			checkLeast(t, rate, list)
			for burst := 1; burst <= 9; burst++ {
				checkShapes(t, rate, burst, list, 6)
			}
		}
	}
}

// TestAllShapers looks at each rate and burst, with few frames and as many as may be.
func TestAllShapers(t *testing.T) {
	for rate := 1; rate <= 20; rate++ {
		for burst := 1; burst <= 100; burst++ {
			for i, many := range []int{3, 20, 60} {
				seed := rate*1000 + burst*3 + i
				list := mixedPulses(many, seed%7, 1+seed%9, min(50, burst+burst/4), seed)
				checkShapes(t, rate, burst, list, 40)
				checkLeast(t, rate, list)
			}
		}
	}
}

// TestShapesOfAllTimes looks at frames up to the last time, and at the tokens at each.
func TestShapesOfAllTimes(t *testing.T) {
	for seed := range 40 {
		for _, many := range []int{1, 2, 59, 60} {
			list := mixedPulses(many, 1800-seed*45, 1+seed*2, 50, seed+many)
			rate, burst := 1+seed%20, 50+mixedNumbers(1, 51, seed)[0]
			checkShapes(t, rate, burst, list, 2000)
			checkShapes(t, 1, burst, list, 2000)
			checkShapes(t, 20, 10+seed, list, 2000)
		}
	}
}

// TestLeastBurstsOfAllRates looks at frames for each rate, with all sums near to the
// greatest burst.
func TestLeastBurstsOfAllRates(t *testing.T) {
	for rate := 1; rate <= 20; rate++ {
		for sum := 51; sum <= 130; sum++ {
			for _, apart := range []int{0, 1, 2, 5} {
				size := min(50, sum-50)
				list := pulsesOf(3, 50, 3+apart, size)
				if rest := sum - 50 - size; rest > 0 {
					list = append(list, impl.Pulse{At: 3 + apart, Size: rest})
				}
				checkLeast(t, rate, list)
			}
		}
		for seed := range 200 {
			checkLeast(t, rate, mixedPulses(1+seed%60, seed, 1+seed%11, 1+seed/4%50, seed))
		}
	}
}

// TestLeastBurstIsLeast looks whether frames keep to each burst that is not below
// the least one, and to no other.
func TestLeastBurstIsLeast(t *testing.T) {
	for seed := range 60 {
		list := mixedPulses(1+seed, seed, 1+seed%13, 1+seed%50, seed)
		for _, rate := range []int{1, 3, 9, 20} {
			least := impl.LeastBurst(rate, list)
			for burst := 1; burst <= 100; burst++ {
				want := least != -1 && burst >= least
				if got := impl.Conforms(rate, burst, list); got != want {
					t.Fatalf("Conforms(%d, %d, %v) = %v, but LeastBurst is %d", rate, burst, list, got, least)
				}
			}
		}
	}
}

func TestShapersInvalid(t *testing.T) {
	good := [][]impl.Pulse{nil, pulsesOf(0, 1), pulsesOf(2000, 1), alike(60, 9, 1), mixedPulses(60, 0, 30, 50, 5)}
	for _, list := range append(good, pulsesOf(0, 0), alike(61, 0, 1)) {
		for _, rate := range notRates {
			checkNoShapes(t, rate, 1, list)
			checkNoShapes(t, rate, 100, list)
			if got := impl.LeastBurst(rate, list); got != -1 {
				t.Errorf("LeastBurst(%d, %v) = %d", rate, list, got)
			}
		}
		for _, burst := range notBursts {
			checkNoShapes(t, 1, burst, list)
			checkNoShapes(t, 20, burst, list)
			checkNoShapes(t, 0, burst, list)
		}
	}
	for _, list := range badPulses() {
		checkNoShapes(t, 1, 1, list)
		checkNoShapes(t, 20, 100, list)
		for _, rate := range []int{0, 1, 20} {
			if got := impl.LeastBurst(rate, list); got != -1 {
				t.Errorf("LeastBurst(%d, %v) = %d", rate, list, got)
			}
		}
	}
	for _, list := range good {
		for _, at := range notPulseTimes {
			if got := impl.TokensAt(20, 100, list, at); got != -1 {
				t.Errorf("TokensAt(20, 100, %v, %d) = %d", list, at, got)
			}
		}
	}
}

// TestFramesGreaterThanTheBurst looks at each burst and size, with a frame that is too
// great at each place: the others are let through, but none goes on.
func TestFramesGreaterThanTheBurst(t *testing.T) {
	for burst := 1; burst <= 60; burst++ {
		for size := 1; size <= 50; size++ {
			for place := range 3 {
				list := pulsesOf(0, 1, 100, 1, 200, 1)
				list[place].Size = size
				through, times := []bool{true, true, true}, []int{0, 100, 200}
				if size > burst {
					through[place], times = false, nil
				}
				if got := impl.PolicePulses(2, burst, list); !slices.Equal(got, through) {
					t.Errorf("PolicePulses(2, %d, %v) = %v", burst, list, got)
				}
				if got := impl.ShapePulses(2, burst, list); !slices.Equal(got, times) {
					t.Errorf("ShapePulses(2, %d, %v) = %v", burst, list, got)
				}
			}
		}
	}
}

// checkKeeps looks whether what goes on by a shaper keeps to its rate and burst, in
// each row of frames, and whether that can be said of what is let through too.
func checkKeeps(t *testing.T, rate, burst int, list []impl.Pulse) {
	t.Helper()
	times := impl.ShapePulses(rate, burst, list)
	if len(times) != len(list) {
		t.Fatalf("ShapePulses(%d, %d, %v) = %v", rate, burst, list, times)
	}
	_, sizes := timesAndSizes(list)
	if most := mostAtOnce(rate, times, sizes); most > burst {
		t.Fatalf("ShapePulses(%d, %d, %v) = %v: %d at once", rate, burst, list, times, most)
	}
	var kept []impl.Pulse
	for i, goes := range impl.PolicePulses(rate, burst, list) {
		if goes {
			kept = append(kept, list[i])
		}
	}
	keptTimes, keptSizes := timesAndSizes(kept)
	if most := mostAtOnce(rate, keptTimes, keptSizes); most > burst {
		t.Fatalf("PolicePulses(%d, %d, %v) lets %v through: %d at once", rate, burst, list, kept, most)
	}
	if !impl.Conforms(rate, burst, kept) {
		t.Fatalf("PolicePulses(%d, %d, %v) lets %v through, which do not conform", rate, burst, list, kept)
	}
	checkGoneOn(t, rate, burst, list, times)
}

// checkGoneOn looks whether each frame goes on at the first time that it can, in its
// order, and whether a second shaper of the kind lets all of them go on at once.
func checkGoneOn(t *testing.T, rate, burst int, list []impl.Pulse, times []int) {
	t.Helper()
	_, sizes := timesAndSizes(list)
	gone := slices.Clone(list)
	for i, at := range times {
		first := list[i].At
		if i > 0 {
			first = max(first, times[i-1])
		}
		if at < first {
			t.Fatalf("ShapePulses(%d, %d, %v) = %v: %d goes on too early", rate, burst, list, times, i)
		}
		if at > first {
			earlier := append(slices.Clone(times[:i]), at-1)
			if mostAtOnce(rate, earlier, sizes) <= burst {
				t.Fatalf("ShapePulses(%d, %d, %v) = %v: %d goes on too late", rate, burst, list, times, i)
			}
		}
		gone[i].At = at
	}
	if !impl.PulsesValid(gone) {
		return
	}
	if again := impl.ShapePulses(rate, burst, gone); !impl.Conforms(rate, burst, gone) || !slices.Equal(again, times) {
		t.Fatalf("ShapePulses(%d, %d, %v) = %v, and then %v", rate, burst, list, times, again)
	}
}

// TestWhatGoesOnKeeps is promise 14: what goes on keeps to the rate and the burst.
func TestWhatGoesOnKeeps(t *testing.T) {
	for _, list := range pulsesAmong(4, []int{1, 2, 4}, 3) {
		for rate := 1; rate <= 4; rate++ {
			for burst := 4; burst <= 9; burst++ {
				checkKeeps(t, rate, burst, list)
			}
		}
	}
	for rate := 1; rate <= 20; rate++ {
		for burst := 1; burst <= 100; burst += 3 {
			for _, apart := range []int{1, 2, 9, 30} {
				seed := rate*1000 + burst*10 + apart
				checkKeeps(t, rate, burst, mixedPulses(60, seed%5, apart, min(50, burst), seed))
			}
			size := min(50, burst)
			checkKeeps(t, rate, burst, alike(60, 2000, size))
			checkKeeps(t, rate, burst, alike(60, 0, size))
		}
	}
}

// TestShapersKeepNothing looks whether a call changes its argument, or what comes of
// the next one.
func TestShapersKeepNothing(t *testing.T) {
	for many := range 61 {
		// list, and frames behind it.
		whole := append(mixedPulses(many, 5, 4, 20, many), mixedPulses(60, 0, 9, 50, many+1)...)
		before := slices.Clone(whole)
		list := whole[:many]
		times, through := impl.ShapePulses(3, 30, list), impl.PolicePulses(3, 30, list)
		firstTimes, firstThrough := slices.Clone(times), slices.Clone(through)
		times, through = times[:cap(times)], through[:cap(through)]
		for i := range times {
			times[i] = -9
		}
		for i := range through {
			through[i] = !through[i]
		}
		impl.PulsesValid(list)
		impl.Conforms(3, 30, list)
		impl.TokensAt(3, 30, list, 50)
		impl.LeastBurst(3, list)
		impl.ShapePulses(1, 50, whole[many:])
		if again := impl.ShapePulses(3, 30, list); !slices.Equal(again, firstTimes) {
			t.Errorf("ShapePulses returns %v, and then %v", firstTimes, again)
		}
		if again := impl.PolicePulses(3, 30, list); !slices.Equal(again, firstThrough) {
			t.Errorf("PolicePulses returns %v, and then %v", firstThrough, again)
		}
		if !slices.Equal(whole, before) {
			t.Errorf("a function of shapers changes its argument, or what lies behind it: %v, want %v", whole, before)
		}
	}
}
