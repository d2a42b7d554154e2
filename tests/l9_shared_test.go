package tests

import (
	"math"
	"slices"
	"testing"

	"loop.example/wholenet/impl"
)

// notSlots are numbers of slots that are not allowed.
var notSlots = []int{math.MinInt, -2001, -2, -1, 2001, 2002, 4000, 1 << 32, math.MaxInt}

// notDraws are numbers that nobody draws.
var notDraws = []int{math.MinInt, -1001, -2, -1, 1001, 1002, 2000, 1 << 32, math.MaxInt}

// notHolds are numbers of frames that a station can't send in its turn.
var notHolds = append([]int{0, 10, 11, 18}, strangeNumbers...)

// badQueues are numbers that are no queues.
func badQueues() [][]int {
	list := [][]int{make([]int, 7), make([]int, 8), make([]int, 1000), {1, 1, 1, 1, 1, 1, 1}}
	for _, frames := range append([]int{10, 11}, strangeNumbers...) {
		for many := 1; many <= 6; many++ {
			for at := range many {
				queues := mixedNumbers(many, 10, at)
				queues[at] = frames
				list = append(list, queues)
			}
		}
	}
	return list
}

// sumOf returns the sum of numbers.
func sumOf(list []int) int {
	sum := 0
	for _, n := range list {
		sum += n
	}
	return sum
}

// countIn returns how often a number is in a list.
func countIn(list []int, n int) int {
	many := 0
	for _, x := range list {
		if x == n {
			many++
		}
	}
	return many
}

// waitByHand returns how long a station waits, as the test reckons it.
func waitByHand(tries, draw int) int {
	spans := []int{2, 4, 8, 16, 32}
	return draw - draw/spans[min(tries, 5)-1]*spans[min(tries, 5)-1]
}

// talkByTimes returns what comes of stations that send when they like, as the test
// reckons it: each station has a slot in which it sends next, and the slots in
// which nobody sends are left out.
func talkByTimes(queues, draws []int, slots int) impl.TalkRun {
	left, at, tries := slices.Clone(queues), make([]int, len(queues)), make([]int, len(queues))
	var run impl.TalkRun
	for sumOf(left) > 0 {
		now := math.MaxInt
		for i := range left {
			if left[i] > 0 {
				now = min(now, at[i])
			}
		}
		if now >= slots {
			run.Slots = slots
			return run
		}
		var senders []int
		for i := range left {
			if left[i] > 0 && at[i] == now {
				senders = append(senders, i)
			}
		}
		run.Slots = now + 1
		if len(senders) == 1 {
			i := senders[0]
			run.Order = append(run.Order, i)
			left[i]--
			tries[i], at[i] = 0, now+1
			continue
		}
		run.Hits++
		for _, i := range senders {
			draw := i + 32*i
			if len(draws) > 0 {
				draw, draws = draws[0], draws[1:]
			}
			tries[i]++
			at[i] = now + 1 + waitByHand(tries[i], draw)
		}
	}
	run.Done = true
	return run
}

// tokenBySlots returns what comes of stations that send in turn, as the test
// reckons it: slot by slot, with the station whose turn it is and how many frames
// it has sent in it.
func tokenBySlots(queues []int, hold, slots int) impl.TalkRun {
	left := slices.Clone(queues)
	var run impl.TalkRun
	turn, held := 0, 0
	for sumOf(left) > 0 && run.Slots < slots {
		for held == hold || left[turn] == 0 {
			turn, held = (turn+1)%len(left), 0
		}
		run.Order = append(run.Order, turn)
		left[turn]--
		held++
		run.Slots++
	}
	run.Done = sumOf(left) == 0
	return run
}

// sameTalk reports whether two things that came of stations are the same.
func sameTalk(a, b impl.TalkRun) bool {
	return slices.Equal(a.Order, b.Order) && a.Hits == b.Hits && a.Slots == b.Slots && a.Done == b.Done
}

// checkTalk holds what comes of stations that send when they like against the
// reckoning.
func checkTalk(t *testing.T, queues, draws []int, slots int) {
	t.Helper()
	want := talkByTimes(queues, draws, slots)
	if got, ok := impl.RunTalk(queues, draws, slots); !ok || !sameTalk(got, want) {
		t.Errorf("RunTalk(%v, %v, %d) = %v, %v, want %v", queues, draws, slots, got, ok, want)
	}
}

// checkToken holds what comes of stations that send in turn against the reckoning.
func checkToken(t *testing.T, queues []int, hold, slots int) {
	t.Helper()
	want := tokenBySlots(queues, hold, slots)
	if got, ok := impl.RunToken(queues, hold, slots); !ok || !sameTalk(got, want) {
		t.Errorf("RunToken(%v, %d, %d) = %v, %v, want %v", queues, hold, slots, got, ok, want)
	}
}

// checkNoTalk looks whether stations that send when they like do so all the same.
func checkNoTalk(t *testing.T, queues, draws []int, slots int) {
	t.Helper()
	if got, ok := impl.RunTalk(queues, draws, slots); ok || !sameTalk(got, impl.TalkRun{}) {
		t.Errorf("RunTalk(%v, %v, %d) = %v, %v", queues, draws, slots, got, ok)
	}
}

// checkNoToken looks whether stations that send in turn do so all the same.
func checkNoToken(t *testing.T, queues []int, hold, slots int) {
	t.Helper()
	if got, ok := impl.RunToken(queues, hold, slots); ok || !sameTalk(got, impl.TalkRun{}) {
		t.Errorf("RunToken(%v, %d, %d) = %v, %v", queues, hold, slots, got, ok)
	}
}

func TestTalkLimits(t *testing.T) {
	got := []int{impl.MaxTalkers, impl.MaxTalk, impl.MaxSlots, impl.MaxTries}
	if want := []int{6, 9, 2000, 5}; !slices.Equal(got, want) {
		t.Errorf("the constants are %v, want %v", got, want)
	}
}

func TestTalkValid(t *testing.T) {
	good := [][]int{nil, {}, {0}, {9}, {0, 0, 0, 0, 0, 0}, {9, 9, 9, 9, 9, 9}, {0, 1, 2, 3, 4, 5}, {9, 8, 7, 6}}
	for _, queues := range append(good, listsOf([]int{0, 1, 9}, 6)...) {
		if !impl.TalkValid(queues) {
			t.Errorf("TalkValid(%v) = false", queues)
		}
	}
	for _, queues := range badQueues() {
		if impl.TalkValid(queues) {
			t.Errorf("TalkValid(%v) = true", queues)
		}
	}
}

func TestWaitOf(t *testing.T) {
	cases := []struct{ tries, draw, want int }{
		{1, 0, 0}, {1, 1, 1}, {1, 2, 0}, {1, 1000, 0}, {2, 7, 3}, {2, 4, 0}, {3, 7, 7}, {3, 1000, 0}, {4, 1000, 8},
		{5, 31, 31}, {5, 32, 0}, {5, 1000, 8}, {6, 31, 31}, {6, 32, 0}, {6, 63, 31}, {7, 100, 4}, {2000, 999, 7},
		{63, 1000, 8}, {64, 1000, 8}, {65, 33, 1}, {math.MaxInt, 1000, 8}, {math.MaxInt, 0, 0}, {1 << 32, 95, 31},
	}
	for _, c := range cases {
		if got := impl.WaitOf(c.tries, c.draw); got != c.want {
			t.Errorf("WaitOf(%d, %d) = %d, want %d", c.tries, c.draw, got, c.want)
		}
	}
	for tries := 1; tries <= 70; tries++ {
		for draw := 0; draw <= 1000; draw++ {
			if got, want := impl.WaitOf(tries, draw), waitByHand(tries, draw); got != want {
				t.Errorf("WaitOf(%d, %d) = %d, want %d", tries, draw, got, want)
			}
		}
	}
}

func TestWaitOfInvalid(t *testing.T) {
	check := func(tries, draw int) {
		t.Helper()
		if got := impl.WaitOf(tries, draw); got != -1 {
			t.Errorf("WaitOf(%d, %d) = %d, want -1", tries, draw, got)
		}
	}
	for _, draw := range notDraws {
		for _, tries := range []int{1, 2, 5, 6, 64, math.MaxInt, 0, -1, math.MinInt} {
			check(tries, draw)
		}
	}
	for _, tries := range []int{0, -1, -2, -5, -64, math.MinInt} {
		for _, draw := range []int{0, 1, 2, 31, 32, 1000} {
			check(tries, draw)
		}
	}
}

func TestRunTalk(t *testing.T) {
	cases := []struct {
		queues, draws []int
		slots         int
		want          impl.TalkRun
	}{
		{nil, nil, 0, impl.TalkRun{Done: true}},
		{nil, []int{1}, 9, impl.TalkRun{Done: true}},
		{[]int{0, 0, 0}, nil, 0, impl.TalkRun{Done: true}},
		{[]int{0, 0, 0, 0, 0, 0}, []int{1, 2}, 2000, impl.TalkRun{Done: true}},
		{[]int{1}, nil, 0, impl.TalkRun{}},
		{[]int{1}, nil, 1, impl.TalkRun{Order: []int{0}, Slots: 1, Done: true}},
		{[]int{3}, nil, 9, impl.TalkRun{Order: []int{0, 0, 0}, Slots: 3, Done: true}},
		{[]int{0, 3, 0}, nil, 2, impl.TalkRun{Order: []int{1, 1}, Slots: 2}},
		// The document's example.
		{[]int{1, 1}, []int{0, 1}, 9, impl.TalkRun{Order: []int{0, 1}, Hits: 1, Slots: 3, Done: true}},
		{[]int{1, 1}, []int{1, 0}, 9, impl.TalkRun{Order: []int{1, 0}, Hits: 1, Slots: 3, Done: true}},
		{[]int{1, 1}, []int{0, 1}, 2, impl.TalkRun{Order: []int{0}, Hits: 1, Slots: 2}},
		{[]int{1, 1}, []int{0, 1}, 1, impl.TalkRun{Hits: 1, Slots: 1}},
		{[]int{1, 1}, []int{0, 1}, 0, impl.TalkRun{}},
		// The waits of two end together, and they hit again: the second slot is quiet.
		{[]int{1, 1}, []int{1, 1, 0, 3}, 9, impl.TalkRun{Order: []int{0, 1}, Hits: 2, Slots: 7, Done: true}},
		{[]int{1, 1}, []int{1, 1, 3, 2}, 9, impl.TalkRun{Order: []int{1, 0}, Hits: 2, Slots: 7, Done: true}},
		// The waits of two of three end together, behind the third one's frame.
		{[]int{1, 1, 1}, []int{1, 0, 1, 0, 1}, 9, impl.TalkRun{Order: []int{1, 0, 2}, Hits: 2, Slots: 5, Done: true}},
		// One whose wait ends hits one that goes on with its next frame.
		{[]int{3, 1}, []int{0, 1, 3, 0}, 9, impl.TalkRun{Order: []int{0, 1, 0, 0}, Hits: 2, Slots: 6, Done: true}},
		// No draws: the numbers 0 and 1 are the waits.
		{[]int{1, 1}, nil, 9, impl.TalkRun{Order: []int{0, 1}, Hits: 1, Slots: 3, Done: true}},
		// No draws: 0 and 2 both have the wait 0, and then 0 and 2.
		{[]int{1, 0, 1}, nil, 9, impl.TalkRun{Order: []int{0, 2}, Hits: 2, Slots: 5, Done: true}},
		// The draws end within a hit: the second of the two waits 1.
		{[]int{1, 1}, []int{0}, 9, impl.TalkRun{Order: []int{0, 1}, Hits: 1, Slots: 3, Done: true}},
		{[]int{1, 1}, []int{1}, 9, impl.TalkRun{Order: []int{0, 1}, Hits: 2, Slots: 5, Done: true}},
		{[]int{1, 0, 1}, []int{0, 0, 1}, 9, impl.TalkRun{Order: []int{0, 2}, Hits: 2, Slots: 5, Done: true}},
		// Draws that are left over count for nothing.
		{[]int{2, 0}, []int{5, 6, 7}, 9, impl.TalkRun{Order: []int{0, 0}, Slots: 2, Done: true}},
	}
	for _, c := range cases {
		if got, ok := impl.RunTalk(c.queues, c.draws, c.slots); !ok || !sameTalk(got, c.want) {
			t.Errorf("RunTalk(%v, %v, %d) = %v, %v, want %v", c.queues, c.draws, c.slots, got, ok, c.want)
		}
		checkTalk(t, c.queues, c.draws, c.slots)
	}
}

// TestTriesGrow holds that a wait is drawn from two numbers, then from four, up to
// 32, and from no more after the sixth hit.
func TestTriesGrow(t *testing.T) {
	for many, slots := range []int{2, 6, 14, 30, 62, 94, 126, 158} {
		draws := slices.Repeat([]int{63}, 2*(many+1))
		// The two wait longest, and then one of them 0 and the other one 1.
		draws = append(draws, 0, 1)
		want := impl.TalkRun{Order: []int{0, 1}, Hits: many + 2, Slots: slots + 3, Done: true}
		if got, ok := impl.RunTalk([]int{1, 1}, draws, 2000); !ok || !sameTalk(got, want) {
			t.Errorf("with %d hits of the longest waits: %v, %v, want %v", many+1, got, ok, want)
		}
	}
}

// TestTriesBeginAgain holds that tries are 0 again behind a frame that is sent.
func TestTriesBeginAgain(t *testing.T) {
	// Three hits, and then station 0 has sent: with the draw 7 it waits 1, station 1 seven slots.
	draws := []int{0, 0, 0, 0, 0, 1, 7, 7}
	want := impl.TalkRun{Order: []int{0, 0, 1}, Hits: 4, Slots: 13, Done: true}
	if got, ok := impl.RunTalk([]int{2, 1}, draws, 99); !ok || !sameTalk(got, want) {
		t.Errorf("RunTalk = %v, %v, want %v", got, ok, want)
	}
}

// TestOwnNumbers holds what stations do that have no draws: each waits as many slots
// as its own number, modulo the numbers it may draw from.
func TestOwnNumbers(t *testing.T) {
	// By hand: hits in the slots 0, 1, 2, 4, 6, 7 and 10; frames in 3, 8, 12, 13, 14 and 16.
	want := impl.TalkRun{Order: []int{0, 1, 4, 2, 3, 5}, Hits: 7, Slots: 17, Done: true}
	if got, ok := impl.RunTalk([]int{1, 1, 1, 1, 1, 1}, nil, 2000); !ok || !sameTalk(got, want) {
		t.Errorf("RunTalk = %v, %v, want %v", got, ok, want)
	}
	for _, queues := range listsOf([]int{0, 1, 2}, 6) {
		checkTalk(t, queues, nil, 2000)
	}
	for _, queues := range listsOf([]int{0, 9}, 6) {
		checkTalk(t, queues, nil, 2000)
		checkTalk(t, queues, nil, 50)
		checkTalk(t, queues, []int{1}, 2000)
	}
}

func TestTalkOfFewFrames(t *testing.T) {
	draws := listsOf([]int{0, 1, 6, 31}, 4)
	for _, queues := range listsOf([]int{0, 1, 2}, 3) {
		for _, list := range draws {
			checkTalk(t, queues, list, 2000)
			checkTalk(t, queues, list, len(list))
		}
	}
}

// TestTalkCutOff holds that with fewer slots there comes of stations what came of
// them until then.
func TestTalkCutOff(t *testing.T) {
	for seed := range 30 {
		queues, draws := mixedNumbers(1+seed%6, 10, seed), mixedNumbers(seed*7%100, 1001, seed)
		whole, ok := impl.RunTalk(queues, draws, 2000)
		if !ok || !whole.Done {
			t.Fatalf("RunTalk(%v, %v, 2000) = %v, %v", queues, draws, whole, ok)
		}
		for slots := 0; slots <= whole.Slots+2; slots++ {
			checkTalk(t, queues, draws, slots)
			run, _ := impl.RunTalk(queues, draws, slots)
			if run.Done != (slots >= whole.Slots) || run.Slots != min(slots, whole.Slots) {
				t.Errorf("RunTalk(%v, %v, %d) = %v, and with more slots %v", queues, draws, slots, run, whole)
			}
			if !slices.Equal(run.Order, whole.Order[:len(run.Order)]) {
				t.Errorf("RunTalk(%v, %v, %d) = %v, and with more slots %v", queues, draws, slots, run, whole)
			}
		}
	}
}

func TestMixedTalk(t *testing.T) {
	for seed := range 300 {
		queues := mixedNumbers(seed%7, 10, seed)
		for _, below := range []int{1, 2, 4, 33, 1001} {
			for _, many := range []int{1, 10, 199, 200} {
				draws := mixedNumbers(many, below, seed+many)
				checkTalk(t, queues, draws, 2000)
				checkTalk(t, queues, draws, seed)
			}
		}
	}
}

func TestTalkAtItsLimits(t *testing.T) {
	most := slices.Repeat([]int{9}, 6)
	for draw := 0; draw <= 1000; draw++ {
		for _, slots := range []int{0, 1, 1999, 2000} {
			checkTalk(t, most, slices.Repeat([]int{draw}, 200), slots)
		}
	}
	// Two that always draw the same have no end of hits before the slots end: in
	// the slots 1, 3, 7, 15, 31, 63, and then in each 32nd one.
	want := impl.TalkRun{Hits: 66, Slots: 2000}
	if got, ok := impl.RunTalk([]int{9, 9}, slices.Repeat([]int{31}, 200), 2000); !ok || !sameTalk(got, want) {
		t.Errorf("RunTalk = %v, %v, want %v", got, ok, want)
	}
	// All that draw nought send in all slots, until the draws end within a hit.
	want = impl.TalkRun{Hits: 33, Slots: 33}
	if got, ok := impl.RunTalk(most, make([]int, 200), 33); !ok || !sameTalk(got, want) {
		t.Errorf("RunTalk = %v, %v, want %v", got, ok, want)
	}
}

func TestRunTalkInvalid(t *testing.T) {
	for _, queues := range badQueues() {
		checkNoTalk(t, queues, nil, 9)
		checkNoTalk(t, queues, []int{0, 1000}, 0)
	}
	for _, slots := range notSlots {
		checkNoTalk(t, nil, nil, slots)
		checkNoTalk(t, []int{0, 0}, []int{0, 1}, slots)
		checkNoTalk(t, []int{1, 1}, []int{0, 1}, slots)
	}
	for _, many := range []int{201, 202, 400, 100000} {
		checkNoTalk(t, []int{1, 1}, make([]int, many), 9)
		checkNoTalk(t, nil, make([]int, many), 0)
	}
	for _, draw := range notDraws {
		for _, many := range []int{1, 2, 3, 200} {
			for _, at := range []int{0, many / 2, many - 1} {
				draws := mixedNumbers(many, 1001, at)
				draws[at] = draw
				checkNoTalk(t, []int{1, 1}, draws, 9)
				// A draw that nobody comes to must be one too.
				checkNoTalk(t, []int{1}, draws, 9)
				checkNoTalk(t, nil, draws, 0)
			}
		}
	}
}

func TestRunToken(t *testing.T) {
	cases := []struct {
		queues      []int
		hold, slots int
		want        impl.TalkRun
	}{
		{nil, 1, 0, impl.TalkRun{Done: true}},
		{nil, 9, 2000, impl.TalkRun{Done: true}},
		{[]int{0, 0}, 3, 0, impl.TalkRun{Done: true}},
		{[]int{0, 0}, 3, 7, impl.TalkRun{Done: true}},
		{[]int{1}, 1, 0, impl.TalkRun{}},
		{[]int{3, 1}, 2, 9, impl.TalkRun{Order: []int{0, 0, 1, 0}, Slots: 4, Done: true}},
		{[]int{3, 1}, 1, 9, impl.TalkRun{Order: []int{0, 1, 0, 0}, Slots: 4, Done: true}},
		{[]int{3, 1}, 3, 9, impl.TalkRun{Order: []int{0, 0, 0, 1}, Slots: 4, Done: true}},
		{[]int{3, 1}, 9, 4, impl.TalkRun{Order: []int{0, 0, 0, 1}, Slots: 4, Done: true}},
		{[]int{0, 3, 0, 2, 0}, 2, 9, impl.TalkRun{Order: []int{1, 1, 3, 3, 1}, Slots: 5, Done: true}},
		// A turn that is cut off.
		{[]int{3, 1}, 3, 2, impl.TalkRun{Order: []int{0, 0}, Slots: 2}},
		{[]int{3, 1}, 3, 3, impl.TalkRun{Order: []int{0, 0, 0}, Slots: 3}},
		{[]int{2, 2, 2}, 2, 3, impl.TalkRun{Order: []int{0, 0, 1}, Slots: 3}},
		{[]int{5, 2}, 2, 5, impl.TalkRun{Order: []int{0, 0, 1, 1, 0}, Slots: 5}},
		{[]int{9}, 4, 8, impl.TalkRun{Order: []int{0, 0, 0, 0, 0, 0, 0, 0}, Slots: 8}},
	}
	for _, c := range cases {
		if got, ok := impl.RunToken(c.queues, c.hold, c.slots); !ok || !sameTalk(got, c.want) {
			t.Errorf("RunToken(%v, %d, %d) = %v, %v, want %v", c.queues, c.hold, c.slots, got, ok, c.want)
		}
		checkToken(t, c.queues, c.hold, c.slots)
	}
}

func TestTokenOfAllQueues(t *testing.T) {
	for _, queues := range listsOf([]int{0, 1, 2, 3, 4}, 4) {
		for hold := 1; hold <= 5; hold++ {
			for _, slots := range []int{0, 1, 2, 3, 5, 8, 16, 2000} {
				checkToken(t, queues, hold, slots)
			}
		}
	}
}

func TestMixedToken(t *testing.T) {
	lists := [][]int{slices.Repeat([]int{9}, 6), {9, 0, 0, 0, 0, 0}, {0, 0, 0, 0, 0, 9}}
	for seed := range 100 {
		lists = append(lists, mixedNumbers(1+seed%6, 10, seed))
	}
	for _, queues := range lists {
		for hold := 1; hold <= 9; hold++ {
			for slots := 0; slots <= 60; slots++ {
				checkToken(t, queues, hold, slots)
			}
			checkToken(t, queues, hold, 1999)
			checkToken(t, queues, hold, 2000)
		}
	}
}

func TestRunTokenInvalid(t *testing.T) {
	for _, queues := range badQueues() {
		checkNoToken(t, queues, 1, 9)
		checkNoToken(t, queues, 9, 0)
	}
	for _, queues := range [][]int{nil, {0}, {1, 1}, {9, 9, 9, 9, 9, 9}} {
		for _, hold := range notHolds {
			checkNoToken(t, queues, hold, 0)
			checkNoToken(t, queues, hold, 9)
		}
		for _, slots := range notSlots {
			checkNoToken(t, queues, 1, slots)
			checkNoToken(t, queues, 9, slots)
		}
	}
}

func TestSentBy(t *testing.T) {
	cases := []struct {
		order []int
		n     int
		want  []int
	}{
		{nil, 0, nil},
		{nil, 1, []int{0}},
		{nil, 6, []int{0, 0, 0, 0, 0, 0}},
		{[]int{0, 0, 1, 0}, 2, []int{3, 1}},
		{[]int{0, 0, 1, 0}, 1, []int{3}},
		{[]int{0, 0, 1, 0}, 0, nil},
		{[]int{5, 4, 5, 0}, 6, []int{1, 0, 0, 0, 1, 2}},
		// Numbers that are no stations are not counted.
		{[]int{-1, 6, 2, 3, math.MinInt, math.MaxInt, 1 << 32}, 3, []int{0, 0, 1}},
		{make([]int, 5000), 2, []int{5000, 0}},
	}
	for _, c := range cases {
		if got := impl.SentBy(c.order, c.n); !slices.Equal(got, c.want) {
			t.Errorf("SentBy(%v, %d) = %v, want %v", c.order, c.n, got, c.want)
		}
	}
	for _, order := range listsOf([]int{-1, 0, 1, 4, 5, 6}, 4) {
		for n := 0; n <= 6; n++ {
			got := impl.SentBy(order, n)
			if len(got) != n {
				t.Fatalf("SentBy(%v, %d) = %v", order, n, got)
			}
			for i, many := range got {
				if many != countIn(order, i) {
					t.Errorf("SentBy(%v, %d) = %v", order, n, got)
				}
			}
		}
	}
}

func TestSentByInvalid(t *testing.T) {
	for _, n := range append([]int{7, 8, 60}, strangeNumbers...) {
		for _, order := range [][]int{nil, {0}, {0, 1, 2, 6, 7}, {n, n}} {
			if got := impl.SentBy(order, n); len(got) != 0 {
				t.Errorf("SentBy(%v, %d) = %v", order, n, got)
			}
		}
	}
}

func TestTurnsOf(t *testing.T) {
	cases := []struct {
		queues     []int
		hold, want int
	}{
		{nil, 1, 0}, {nil, 9, 0}, {[]int{0}, 1, 0}, {[]int{0, 0, 0, 0, 0, 0}, 9, 0},
		{[]int{3, 1}, 2, 2}, {[]int{3, 1}, 3, 1}, {[]int{3, 1}, 1, 3}, {[]int{1, 4}, 3, 2},
		{[]int{9}, 9, 1}, {[]int{9}, 8, 2}, {[]int{9}, 1, 9}, {[]int{1, 8, 2}, 4, 2}, {[]int{1, 9, 2}, 4, 3},
	}
	for _, c := range cases {
		if got := impl.TurnsOf(c.queues, c.hold); got != c.want {
			t.Errorf("TurnsOf(%v, %d) = %d, want %d", c.queues, c.hold, got, c.want)
		}
	}
	for _, queues := range listsOf([]int{0, 1, 2, 5, 8, 9}, 4) {
		for hold := 1; hold <= 9; hold++ {
			// In so many turns a station can send hold frames in each, and in one less it can't.
			turns, most := impl.TurnsOf(queues, hold), slices.Max(append([]int{0}, queues...))
			if turns*hold < most || turns > 0 && (turns-1)*hold >= most || turns < 0 {
				t.Errorf("TurnsOf(%v, %d) = %d", queues, hold, turns)
			}
		}
	}
}

func TestTurnsOfInvalid(t *testing.T) {
	check := func(queues []int, hold int) {
		t.Helper()
		if got := impl.TurnsOf(queues, hold); got != -1 {
			t.Errorf("TurnsOf(%v, %d) = %d, want -1", queues, hold, got)
		}
	}
	for _, queues := range badQueues() {
		check(queues, 1)
		check(queues, 9)
	}
	for _, hold := range notHolds {
		for _, queues := range [][]int{nil, {0}, {1, 2}, {9, 9, 9, 9, 9, 9}, {10}} {
			check(queues, hold)
		}
	}
}

// checkSentOnce looks whether each frame is sent once, or, where the slots were too
// few, at most once.
func checkSentOnce(t *testing.T, name string, queues []int, run impl.TalkRun, slots int) {
	t.Helper()
	sent := impl.SentBy(run.Order, len(queues))
	if sumOf(sent) != len(run.Order) || run.Done != slices.Equal(sent, queues) {
		t.Errorf("%s of %v = %v", name, queues, run)
	}
	for i, frames := range queues {
		if sent[i] > frames {
			t.Errorf("%s of %v = %v: station %d sends more than it has", name, queues, run, i)
		}
	}
	// No slot has a frame and a hit, and slots are left only when all is sent.
	if len(run.Order)+run.Hits > run.Slots || run.Slots > slots || run.Slots < slots && !run.Done {
		t.Errorf("%s of %v with %d slots = %v", name, queues, slots, run)
	}
}

// TestEachFrameIsSentOnce is promise 9: each frame is sent once, whoever hits.
func TestEachFrameIsSentOnce(t *testing.T) {
	lists := append(listsOf([]int{0, 1, 3}, 4), []int{9, 9, 9, 9, 9, 9}, []int{1, 1, 1, 1, 1, 1}, []int{9, 0, 0, 0, 0, 9})
	for seed := range 60 {
		lists = append(lists, mixedNumbers(1+seed%6, 10, seed))
	}
	for i, queues := range lists {
		for _, below := range []int{1, 2, 32, 1001} {
			for _, many := range []int{0, 1, 5, 200} {
				draws := mixedNumbers(many, below, i)
				for _, slots := range []int{0, 1, 7, 30, 2000} {
					run, ok := impl.RunTalk(queues, draws, slots)
					if !ok || slots == 2000 && !run.Done {
						t.Errorf("RunTalk(%v, %v, %d) = %v, %v", queues, draws, slots, run, ok)
					}
					checkSentOnce(t, "RunTalk", queues, run, slots)
				}
			}
		}
		for hold := 1; hold <= 9; hold++ {
			for _, slots := range []int{0, 1, 7, 30, 54, 2000} {
				run, ok := impl.RunToken(queues, hold, slots)
				if !ok || run.Hits != 0 || slots >= 54 && !run.Done {
					t.Errorf("RunToken(%v, %d, %d) = %v, %v", queues, hold, slots, run, ok)
				}
				checkSentOnce(t, "RunToken", queues, run, slots)
			}
		}
	}
}

// TestTurnsAreEnough holds that each station gets the turn as often as TurnsOf
// tells, and no more often.
func TestTurnsAreEnough(t *testing.T) {
	for _, queues := range listsOf([]int{0, 1, 4, 9}, 4) {
		for hold := 1; hold <= 9; hold++ {
			run, _ := impl.RunToken(queues, hold, 2000)
			most := 0
			for i := range queues {
				turns := 0
				for at := 0; at < len(run.Order); {
					end := at
					for end < len(run.Order) && run.Order[end] == run.Order[at] {
						end++
					}
					if run.Order[at] == i {
						turns += (end - at + hold - 1) / hold
					}
					at = end
				}
				most = max(most, turns)
			}
			if got := impl.TurnsOf(queues, hold); got != most {
				t.Errorf("TurnsOf(%v, %d) = %d, and one has %d turns", queues, hold, got, most)
			}
		}
	}
}

func TestSharedWiresShareNoMemory(t *testing.T) {
	for many := 1; many <= 6; many++ {
		// queues, draws and an order, one behind the other, and numbers behind them.
		queues, draws, order := mixedNumbers(many, 9, many), mixedNumbers(20, 1001, many), mixedNumbers(30, many, 1)
		for i := range queues {
			queues[i]++
		}
		whole := slices.Concat(queues, draws, order, mixedNumbers(60, 6, many))
		before := slices.Clone(whole)
		ofQueues, ofDraws, ofOrder := whole[:many], whole[many:many+20], whole[many+20:many+50]
		calls := map[string]func() []int{
			"SentBy": func() []int { return impl.SentBy(ofOrder, many) },
			"RunTalk": func() []int {
				run, _ := impl.RunTalk(ofQueues, ofDraws, 2000)
				return run.Order
			},
			"RunToken": func() []int {
				run, _ := impl.RunToken(ofQueues, 2, 2000)
				return run.Order
			},
			"a run cut off": func() []int {
				run, _ := impl.RunToken(ofQueues, 2, 1)
				return run.Order
			},
		}
		for name, call := range calls {
			first, second := call(), call()
			if len(first) == 0 || !slices.Equal(first, second) {
				t.Errorf("%s returns %v, and then %v", name, first, second)
			}
			checkApart(t, name, whole, before, first, second)
		}
	}
	// The others only look at what they are given.
	queues := []int{3, 1, 4, 1, 5, 9}
	impl.TalkValid(queues[:4])
	impl.TurnsOf(queues[:4], 2)
	if want := []int{3, 1, 4, 1, 5, 9}; !slices.Equal(queues, want) {
		t.Errorf("queues are %v, want %v", queues, want)
	}
}
